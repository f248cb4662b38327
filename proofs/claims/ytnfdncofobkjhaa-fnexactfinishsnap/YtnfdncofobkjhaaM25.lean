/- Several texts of one proof, in build order: PzP, FzP, FzT. -/
import Derived.Test.YtnfdncofobkjhaaM24
import Derived.Test.YtnfdncofobkjhaaM4
import Derived.Test.YtnfdncofobkjhaaM13
import Derived.Test.YtnfdncofobkjhaaM12

/- Plain: playing steps on a snap. -/
namespace Go.Proofs.Ytnfdncofobkjhaa
open Go.RowKit

def pzN (x : TSnap) (s : TSnapStep) : TSnap := cond (spB x s.1 s.2.1 s.2.2.1 s.2.2.2) (spX x s.1 s.2.1 s.2.2.1 s.2.2.2) x
def pzS : TSnap → List TSnapStep → TSnap
  | x, [] => x
  | x, s :: l => pzS (pzN x s) l
def pzL : TSnap → List TSnapStep → List Bool
  | _, [] => []
  | x, s :: l => spB x s.1 s.2.1 s.2.2.1 s.2.2.2 :: pzL (pzN x s) l
theorem gs_next {x : TSnap} (s : TSnapStep) (h : gsB x = true) : gsB (pzN x s) = true := by
  unfold pzN
  cases hb : spB x s.1 s.2.1 s.2.2.1 s.2.2.2 with
  | false => exact h
  | true =>
    show gsB (spX x s.1 s.2.1 s.2.2.1 s.2.2.2) = true
    unfold spX
    rw [hb]
    unfold spB at hb
    simp only [Bool.and_eq_true] at hb
    exact hb.2
theorem gs_play : ∀ (l : List TSnapStep) {x : TSnap}, gsB x = true → gsB (pzS x l) = true
  | [], _, h => h
  | s :: l, _, h => gs_play l (gs_next s h)
theorem pzL_len : ∀ (l : List TSnapStep) (x : TSnap), (pzL x l).length = l.length
  | [], _ => rfl
  | s :: l, x => by show (pzL _ l).length + 1 = l.length + 1; rw [pzL_len l]
theorem pz_at {l : List TSnapStep} {i : Nat} {s : TSnapStep} (h : l[i]? = some s) (x : TSnap) : pzS x (l.drop i) = pzS (pzN x s) (l.drop (i + 1)) ∧ pzL x (l.drop i) = spB x s.1 s.2.1 s.2.2.1 s.2.2.2 :: pzL (pzN x s) (l.drop (i + 1)) := by
  have e : l.drop i = s :: l.drop (i + 1) := by
    rw [List.drop_eq_getElem_cons (List.getElem?_eq_some_iff.1 h).1, (List.getElem?_eq_some_iff.1 h).2]
  rw [e]; exact ⟨rfl, rfl⟩
def pzOk (src : List Int) (l : List TSnapStep) : Bool := gsB (newS src) && decide (l.length ≤ 120)
def pzX (src : List Int) (l : List TSnapStep) : TSnap := if pzOk src l then pzS (newS src) l else ([], [])
def pzB (src : List Int) (l : List TSnapStep) : List Bool := if pzOk src l then pzL (newS src) l else []
theorem pz_small (src : List Int) (l : List TSnapStep) : costSnap ((pzX src l).1, (pzX src l).2) ≤ 1048576 := by
  show costSnap (pzX src l) ≤ 1048576
  unfold pzX
  cases hg : pzOk src l with
  | false => show costSnap ([], []) ≤ 1048576; decide
  | true =>
    unfold pzOk at hg
    rw [Bool.and_eq_true] at hg
    exact gs_small (gs_play l hg.1)
theorem pz_len (src : List Int) (l : List TSnapStep) : (pzB src l).length ≤ 120 := by
  unfold pzB
  cases hg : pzOk src l with
  | false => show ([] : List Bool).length ≤ 120; decide
  | true =>
    unfold pzOk at hg
    rw [Bool.and_eq_true, decide_eq_true_eq] at hg
    rw [if_pos rfl, pzL_len]
    exact hg.2
theorem gs_wires {ps : List TProc} {ws : List TWire} (h : gsB (ps, ws) = true) : ps.length ≤ 1048576 ∧ ws.length ≤ 1048576 ∧ ∀ (i : Nat) (x : TWire), ws[i]? = some x → costWire x ≤ 1048576 := by
  obtain ⟨_, g4, _, g16, _, gw, _⟩ := gs_parts (ps := ps) (ws := ws) rfl rfl h
  refine ⟨by omega, by omega, fun i x hx => ?_⟩
  have := gw _ (List.mem_of_getElem? hx)
  unfold costWire
  omega

end Go.Proofs.Ytnfdncofobkjhaa

/- Plain: finishing a snap: every word on the way is taken. -/
namespace Go.Proofs.Ytnfdncofobkjhaa
open Go.RowKit

def hasW (v : TWire) : Bool := decide (0 < v.1.length)
def fzI (x : TSnap) : Nat := x.2.findIdx hasW
def fzF (x : TSnap) : Nat := fzI x / x.1.length
def fzT (x : TSnap) : Nat := fzI x % x.1.length
def fzB (x : TSnap) : Bool := spB x 2 (fzF x : Int) (fzT x : Int) 0
def fzX (x : TSnap) : TSnap := spX x 2 (fzF x : Int) (fzT x : Int) 0
/-- At most m words more are taken, k were: what is told, and whether each could be taken. -/
def fzS : Nat → TSnap → Nat → Bool × Nat × TSnap
  | 0, x, k => (true, k, x)
  | m + 1, x, k => if x.2.any hasW then (if fzB x then fzS m (fzX x) (k + 1) else (false, 0, ([], []))) else (true, k, x)
theorem fzS_end {m : Nat} {x : TSnap} {k : Nat} (h : x.2.any hasW = false) : fzS m x k = (true, k, x) := by
  cases m with
  | zero => rfl
  | succ m => unfold fzS; rw [h]; rfl
theorem fzS_no {m : Nat} {x : TSnap} {k : Nat} (h : x.2.any hasW = true) (hb : fzB x = false) : fzS (m + 1) x k = (false, 0, ([], [])) := by
  unfold fzS; rw [h, hb]; rfl
theorem fzS_yes {m : Nat} {x : TSnap} {k : Nat} (h : x.2.any hasW = true) (hb : fzB x = true) : fzS (m + 1) x k = fzS m (fzX x) (k + 1) := by
  rw [fzS, h, hb]; rfl
theorem fz_next {x : TSnap} (hb : fzB x = true) : gsB (fzX x) = true ∧ (fzX x).1.length = x.1.length := by
  unfold fzB at hb
  unfold fzX spX
  rw [hb]
  have hl := stT_len x 2 (fzF x : Int) (fzT x : Int) 0
  unfold spB at hb
  simp only [Bool.and_eq_true] at hb
  exact ⟨hb.2, hl.1⟩
theorem fzI_lt {x : TSnap} (h : x.2.any hasW = true) : fzI x < x.2.length := by
  obtain ⟨v, hv, hp⟩ := List.any_eq_true.1 h
  exact List.findIdx_lt_length_of_exists ⟨v, hv, hp⟩
theorem fzS_good : ∀ (m : Nat) (x : TSnap) (k : Nat), gsB x = true → (fzS m x k).1 = true → gsB (fzS m x k).2.2 = true
  | 0, _, _, h, _ => h
  | m + 1, x, k, h, ht => by
    cases ha : x.2.any hasW with
    | false => rw [fzS_end ha]; exact h
    | true =>
      cases hb : fzB x with
      | false => rw [fzS_no ha hb] at ht; cases ht
      | true =>
        rw [fzS_yes ha hb] at ht ⊢
        exact fzS_good m _ _ (fz_next hb).1 ht
theorem fzS_or : ∀ (m : Nat) (x : TSnap) (k : Nat), gsB x = true → gsB (fzS m x k).2.2 = true ∨ fzS m x k = (false, 0, ([], []))
  | 0, _, _, h => .inl h
  | m + 1, x, k, h => by
    cases ha : x.2.any hasW with
    | false => rw [fzS_end ha]; exact .inl h
    | true =>
      cases hb : fzB x with
      | false => rw [fzS_no ha hb]; exact .inr rfl
      | true => rw [fzS_yes ha hb]; exact fzS_or m _ _ (fz_next hb).1
theorem fzS_fit {m : Nat} {x : TSnap} {k : Nat} (h : gsB x = true) : (fzS m x k).2.2.1.length ≤ 1048576 ∧ (fzS m x k).2.2.2.length ≤ 1048576 ∧ ∀ (i : Nat) (v : TWire), (fzS m x k).2.2.2[i]? = some v → costWire v ≤ 1048576 := by
  rcases fzS_or m x k h with q | q
  · exact gs_wires q
  · rw [q]
    refine ⟨?_, ?_, fun i v hv => by cases hv⟩ <;> (show 0 ≤ 1048576; omega)
def FzRet (e : Ending) (w' : World) (lo : Nat) (n : Int) (ok : Bool) (x : TSnap) : Prop :=
  ∃ r0 m0 d0 r1 m1 d1, e = .returned (.tuple #[.agg #[.slice r0 m0 d0, .slice r1 m1 d1], .int .i64 n, .bool ok]) ∧ RSnap.Own w' (From lo w'.heap.size) [.slice r0 m0 d0, .slice r1 m1 d1] x
def anyD (x : TSnap) : Bool := x.1.any (fun p => p.2.2)
def fzV (x : TSnap) : Bool × Nat × TSnap := fzS 2000 x 0
def fzOk (x : TSnap) : Bool := gsB x && anyD x && (fzV x).1 && picB (fzV x).2.2
def fzN (x : TSnap) : Int := if fzOk x then ((fzV x).2.1 : Int) else 0
def fzZ (x : TSnap) : TSnap := if fzOk x then (fzV x).2.2 else ([], [])
theorem fz_small (x : TSnap) : costSnap ((fzZ x).1, (fzZ x).2) ≤ 1048576 := by
  show costSnap (fzZ x) ≤ 1048576
  unfold fzZ
  cases h : fzOk x with
  | false => show costSnap ([], []) ≤ 1048576; decide
  | true =>
    unfold fzOk at h
    simp only [Bool.and_eq_true] at h
    exact gs_small (fzS_good 2000 x 0 h.1.1.1 h.1.2)
/-- Where nobody began, not all are done. -/
theorem pic_any {x : TSnap} (h : picB x = true) : anyD x = true := by
  obtain ⟨ps, ws⟩ := x
  unfold picB at h
  simp only [Bool.and_eq_true] at h
  obtain ⟨g2, _⟩ := gs_parts (ps := ps) (ws := ws) rfl rfl h.1.1
  unfold anyD
  cases ps with
  | nil => simp at g2
  | cons p ps =>
    have := h.1.2
    simp only [List.all_cons, Bool.and_eq_true] at this
    simp only [List.any_cons, this.1, Bool.true_or]

end Go.Proofs.Ytnfdncofobkjhaa

/- takeAllWords: every word on the way is taken. -/
namespace Go.Proofs.Ytnfdncofobkjhaa
open Go.RowKit

def TaRet (e : Ending) (w w' : World) (F : Nat → Prop) (x : Bool × Nat × TSnap) : Prop :=
  ∃ r0 m0 d0 r1 m1 d1, e = .returned (.tuple #[.agg #[.slice r0 m0 d0, .slice r1 m1 d1], .int .i64 (x.2.1 : Nat), .bool x.1]) ∧ RSnap.Own w' (fun b => F b ∨ (w.heap.size ≤ b ∧ b < w'.heap.size)) [.slice r0 m0 d0, .slice r1 m1 d1] x.2.2
set_option maxRecDepth 100000 in
set_option maxHeartbeats 20000000 in
theorem takeAllWords_any (F : Nat → Prop) (a0 : Option Addr) (n c0 : Nat) (a1 : Option Addr) (n1 c1 : Nat) (pa : List TProc) (wa : List TWire) (w : World) (hF : ∀ b, F b → b < w.heap.size) (hg : gsB (pa, wa) = true) (ho : RSnap.Own w F [.slice a0 n c0, .slice a1 n1 c1] (pa, wa)) :
    Calls Try.prog 50 #[.agg #[.slice a0 n c0, .slice a1 n1 c1]] w fun e w' => TaRet e w w' F (fzS 2000 (pa, wa) 0) ∧ Below w.heap.size w w' := by
  obtain ⟨W1, hW1⟩ : ∃ W, W = w.alloc (.cells #[.slice a0 n c0, .slice a1 n1 c1] 32) := ⟨_, rfl⟩
  obtain ⟨W, hW⟩ : ∃ W, W = W1.alloc (.cells #[.slice none 0 0, .slice none 0 0] 32) := ⟨_, rfl⟩
  have z1 : W1.heap.size = w.heap.size + 1 := by rw [hW1]; simp
  have zW : W.heap.size = w.heap.size + 2 := by rw [hW]; simp [z1]
  have B01 : Below w.heap.size w W1 := by rw [hW1]; exact (Below.refl _ _).alloc (Nat.le_refl _) _
  have B12 : Below W1.heap.size W1 W := by rw [hW]; exact (Below.refl _ _).alloc (Nat.le_refl _) _
  have b0 : W.heap[w.heap.size]? = some (.cells #[.slice a0 n c0, .slice a1 n1 c1] 32 (0, 0)) := blk_below (by rw [hW1]; exact heap_alloc_new w _) B12
  have b1 : W.heap[w.heap.size + 1]? = some (.cells #[.slice none 0 0, .slice none 0 0] 32 (0, 0)) := by rw [hW, ← z1]; exact heap_alloc_new W1 _
  have B0 : Below w.heap.size w W := B01.trans (B12.mono (by omega))
  have hWW : W = (w.alloc (.cells #[.slice a0 n c0, .slice a1 n1 c1] 32)).alloc (.cells #[.slice none 0 0, .slice none 0 0] 32) := by rw [hW, hW1]
  clear B01 B12 hW hW1 z1 W1
  obtain ⟨RES, hres⟩ : ∃ x, fzS 2000 (pa, wa) 0 = x := ⟨_, rfl⟩
  rw [hres]
  have hln : pa.length = n := (RSnap.lens ho).1
  have HGS := Hid.mk hg
  have HLN0 := Hid.mk hln
  obtain ⟨n2, n4, _⟩ := gs_parts hln rfl hg
  have HRES := Hid.mk hres
  have HO := Hid.mk (RSnap.ownBelow ho B0)
  have HF := Hid.mk hF
  have q0 := blk_cell b0 0 (v := .slice a0 n c0) rfl
  clear hres hg hln ho hF
  go_enter Try.func50, Try.ntmps50
  go_upto_region 1 with fail
  rw [← hWW]
  clear hWW
  have HB0 := Hid.mk b0
  have HB1 := Hid.mk b1
  have HBW := Hid.mk B0
  clear b0 b1 B0
  go_wp2_with fail
  go_loopw [13] (fun i wr => ∃ (k : Nat) (r0 : Option Addr) (mr0 dr0 : Nat) (r1 : Option Addr) (mr1 dr1 : Nat) (ps : List TProc) (ws : List TWire) (G : Nat → Prop), i = .int .i64 k ∧ k ≤ 2000 ∧ wr.heap[w.heap.size]? = some (.cells #[.slice r0 mr0 dr0, .slice r1 mr1 dr1] 32 (0, 0)) ∧ wr.heap[w.heap.size + 1]? = some (.cells #[.slice none 0 0, .slice none 0 0] 32 (0, 0)) ∧ RSnap.Own wr G [.slice r0 mr0 dr0, .slice r1 mr1 dr1] (ps, ws) ∧ gsB (ps, ws) = true ∧ ps.length = n ∧ fzS (2000 - k) (ps, ws) k = RES ∧ (∀ b, G b → (F b ∨ w.heap.size + 2 ≤ b) ∧ b < wr.heap.size) ∧ Below w.heap.size w wr ∧ w.heap.size + 1 < wr.heap.size) (fun i _ => 2000 - (intOf i).toNat)
  case atStart => exact ⟨0, a0, n, c0, a1, n1, c1, pa, wa, F, rfl, by omega, HB0.out, HB1.out, HO.out, HGS.out, HLN0.out, HRES.out, fun b h => ⟨.inl h, by have := HF.out b h; omega⟩, HBW.out, by omega⟩
  case round =>
    clear HB0 HB1 HO HGS HLN0 HRES HBW q0
    obtain ⟨k, r0, mr0, dr0, r1, mr1, dr1, ps, ws, G, rfl, hk, b0, b1, hoz, hjz, hln, hrs, hG, BwY, zwY⟩ := hrel
    obtain ⟨wY, rfl⟩ : ∃ x, x = wr := ⟨_, rfl⟩
    have HRS := Hid.mk hrs
    have HGG := Hid.mk hG
    clear hrs hG
    by_cases hlt : k < 2000
    · have hlti : (k : Int) < 2000 := by omega
      have hw1 : IntKind.i64.wrap ((k : Int) + 1) = ((k + 1 : Nat) : Int) := by rw [IntWalk.i64_in _ (by omega)]; omega
      have HM : Hid (2000 - k = (1999 - k) + 1) := Hid.mk (by omega)
      obtain ⟨⟨u0l, u0n, u0a, _⟩, ⟨u1l, u1n, u1a, _⟩⟩ := RSnap.at_iff (RSnap.toAt hoz)
      have KI := Hid.mk (indexWire_any 78 hasW (fun _ _ => rfl) (fun a0 n0 c0 a1 n1 c1 b x0 x1 w u0 u1 => by
        have e : hasW (x0, x1, b) = decide (0 < n0) := congrArg (fun z => decide (0 < z)) u0.1
        rw [e]
        exact hasWords_any a0 n0 c0 a1 n1 c1 b w) r1 mr1 dr1 ws wY u1l u1n u1a)
      clear u0l u0n u0a u1l u1n u1a

      cases haw : ws.any hasW with
      | false =>
        have HAW : Hid (((ps, ws) : TSnap).2.any hasW = false) := Hid.mk haw
        have HJZ := Hid.mk hjz
        clear haw hjz hln HM
        rw [show ixF hasW ws = -1 by unfold ixF; rw [HAW.out]; rfl] at KI
        have p0 := blk_cell b0 0 (v := .slice r0 mr0 dr0) rfl
        have p1 := blk_cell b0 1 (v := .slice r1 mr1 dr1) rfl
        go_wp2_with fail
        refine KI.out.mono ?_
        rintro e wi ⟨rfl, hbi⟩
        have b0 := blk_below b0 hbi
        have b1 := blk_below b1 hbi
        have hoz := RSnap.ownBelow hoz hbi
        have zwi := hbi.size
        have Bwi := BwY.trans (hbi.mono BwY.size)
        clear KI hbi p0 p1
        have HOZ := Hid.mk hoz
        have HRS : Hid ((true, k, (ps, ws)) = RES) := Hid.mk (by rw [← HRS.out, fzS_end HAW.out])
        clear hoz
        have p0 := blk_cell b0 0 (v := .slice r0 mr0 dr0) rfl
        have p1 := blk_cell b0 1 (v := .slice r1 mr1 dr1) rfl
        have y0 := blk_cell b1 0 (v := .slice none 0 0) rfl
        have y1 := blk_cell b1 1 (v := .slice none 0 0) rfl
        have fz0 := blk_frozen b1 0
        have fz1 := blk_frozen b1 1
        obtain ⟨Y, hY⟩ : ∃ u, u = (wi.setCell ⟨w.heap.size + 1, 0, none⟩ (.slice r0 mr0 dr0)).setCell ⟨w.heap.size + 1, 1, none⟩ (.slice r1 mr1 dr1) := ⟨_, rfl⟩
        have S1 : Off (fun b => b = w.heap.size + 1) wi Y := by rw [hY]; exact (Off.set (F := fun b => b = w.heap.size + 1) (a := ⟨w.heap.size + 1, 0, none⟩) rfl _).trans (Off.set (F := fun b => b = w.heap.size + 1) (a := ⟨w.heap.size + 1, 1, none⟩) rfl _)
        have RR : Hid (TaRet (.returned (.tuple #[.agg #[.slice r0 mr0 dr0, .slice r1 mr1 dr1], .int .i64 (k : Int), .bool true])) w Y F RES ∧ Below w.heap.size w Y) := Hid.mk (by
          have zS := S1.size
          rw [← HRS.out]
          refine ⟨⟨r0, mr0, dr0, r1, mr1, dr1, rfl, RSnap.mono (RSnap.ownOff HOZ.out S1 (fun b h e => by have h2 : b = w.heap.size + 1 := e; have h3 := HGG.out b h; rcases h3.1 with h4 | h4; have := HF.out b h4; omega; omega)) (fun b h => ?_)⟩, Bwi.trans (S1.belowOf (fun b h => by have h2 : b = w.heap.size + 1 := h; omega) (by omega))⟩
          have h3 := HGG.out b h
          rcases h3.1 with h4 | h4
          · exact .inl h4
          · exact .inr ⟨by omega, by omega⟩)
        have HY := Hid.mk hY
        clear S1 hY HOZ HRS HGG HF HJZ b0 b1
        go_wp2
        refine bodyPost_ret (v := .tuple #[.agg #[.slice r0 mr0 dr0, .slice r1 mr1 dr1], .int .i64 (k : Int), .bool true]) (by simp [results, Try.results50, go_sem, y0, y1]) rfl ?_
        have h := RR.out
        rw [HY.out] at h
        exact h
      | true =>
        have HAW : Hid (((ps, ws) : TSnap).2.any hasW = true) := Hid.mk haw
        clear haw
        rw [show ixF hasW ws = ((fzI (ps, ws) : Nat) : Int) by unfold ixF; rw [HAW.out]; rfl] at KI
        obtain ⟨J', hJ'⟩ : ∃ y, fzI (ps, ws) = y := ⟨_, rfl⟩
        rw [hJ'] at KI
        have p0 := blk_cell b0 0 (v := .slice r0 mr0 dr0) rfl
        have p1 := blk_cell b0 1 (v := .slice r1 mr1 dr1) rfl
        go_wp2_with fail
        refine KI.out.mono ?_
        rintro e wi ⟨rfl, hbi⟩
        have b0 := blk_below b0 hbi
        have b1 := blk_below b1 hbi
        have hoz := RSnap.ownBelow hoz hbi
        have zwi := hbi.size
        have Bwi := BwY.trans (hbi.mono BwY.size)
        clear KI hbi p0 p1
        obtain ⟨⟨SB, hsb⟩, ⟨SX, hsx⟩⟩ : (∃ y, fzB (ps, ws) = y) ∧ (∃ y, fzX (ps, ws) = y) := ⟨⟨_, rfl⟩, ⟨_, rfl⟩⟩
        obtain ⟨⟨q0l, q0n, q0a, _⟩, ⟨q1l, q1n, q1a, _⟩⟩ := RSnap.at_iff (RSnap.toAt hoz)
        obtain ⟨hw0, hw1, hw2⟩ := gs_wires hjz
        obtain ⟨Qq, hQ⟩ : ∃ y, fzF (ps, ws) = y := ⟨_, rfl⟩
        obtain ⟨Rr, hR⟩ : ∃ y, fzT (ps, ws) = y := ⟨_, rfl⟩
        have KS : Hid (∀ u, Below wi.heap.size wi u → _) := Hid.mk (fun u hu => implStepSnap r0 mr0 dr0 r1 mr1 dr1 2 (Qq : Int) (Rr : Int) 0 ps ws u q0l q1l (by omega) (by omega) hw2 (AtSl.below q0a hu) (AtSl.below q1a hu))
        have e1 : spB (ps, ws) 2 (Qq : Int) (Rr : Int) 0 = SB := by rw [← hsb, ← hQ, ← hR]; rfl
        have e2 : spX (ps, ws) 2 (Qq : Int) (Rr : Int) 0 = SX := by rw [← hsx, ← hQ, ← hR]; rfl
        rw [e1, e2] at KS
        have hJ := hJ'
        obtain ⟨J, rfl⟩ : ∃ J, J = J' := ⟨_, rfl⟩
        have hQ2 : J / n = Qq := by rw [← hJ, ← hln, ← hQ]; rfl
        have hR2 : J % n = Rr := by rw [← hJ, ← hln, ← hR]; rfl
        have hJn : J < ws.length := by rw [← hJ]; exact fzI_lt HAW.out
        have hnz : ¬ (n : Int) = 0 := by omega
        have hnz2 : ¬ n = 0 := by omega
        have hq : IntKind.i64.wrap ((J : Int).tdiv (n : Int)) = (Qq : Int) := by rw [Int.tdiv_eq_ediv_of_nonneg (by omega), ← hQ2]; exact IntWalk.i64_in _ (by have := Nat.div_le_self J n; constructor <;> omega)
        have hq2 : IntKind.i64.wrap ((J : Int) / (n : Int)) = (Qq : Int) := by rw [← hQ2]; exact IntWalk.i64_in _ (by have := Nat.div_le_self J n; constructor <;> omega)
        have hr : IntKind.i64.wrap ((J : Int).tmod (n : Int)) = (Rr : Int) := by rw [Int.tmod_eq_emod_of_nonneg (by omega), ← hR2]; exact IntWalk.i64_in _ (by have := Nat.mod_le J n; constructor <;> omega)
        have hr2 : (J : Int).tmod (n : Int) = (Rr : Int) := by rw [Int.tmod_eq_emod_of_nonneg (by omega), ← hR2]; rfl
        have HSB := Hid.mk hsb
        have HSX := Hid.mk hsx
        have hJ0 : ¬ (J : Int) < 0 := by omega
        clear hsb hsx q0l q0n q0a q1l q1n q1a hw0 hw1 hw2 hQ hR hQ2 hR2 e1 e2 hJn
        clear hJ hJ'
        have HOZ := Hid.mk hoz
        have hjn := hln
        have HJZ := Hid.mk hjz
        have HLN := Hid.mk hln
        clear hoz hjz hln hjn
        have p0 := blk_cell b0 0 (v := .slice r0 mr0 dr0) rfl
        have p1 := blk_cell b0 1 (v := .slice r1 mr1 dr1) rfl
        go_upto_region 8 with fail
        go_cut [8, 9] (fun p' b' wx => ∃ (P : Nat) (y0 : Option Addr) (my0 dy0 : Nat) (y1 : Option Addr) (my1 dy1 : Nat), p' = .pointer (some ⟨P, 0, none⟩) ∧ b' = .bool SB ∧ wx.heap[P]? = some (.cells #[.slice y0 my0 dy0, .slice y1 my1 dy1] 32 (0, 0)) ∧ RSnap.Own wx (fun b => wi.heap.size ≤ b ∧ b < wx.heap.size ∧ b ≠ P) [.slice y0 my0 dy0, .slice y1 my1 dy1] SX ∧ Below wi.heap.size wi wx ∧ wi.heap.size ≤ P ∧ P < wx.heap.size)
        case first =>
          refine wp_region_held_drew (S := fun w' => Below wi.heap.size wi w') (by kernel_rfl) ?_ (fun hHeld => ?_)
          · (try dsimp only)
            exact (Below.refl _ _).drew
          refine tk 0 ?_ (hy := fun wS hSw => by (have p0 := cell_later hSw p0; have p1 := cell_later hSw p1; go_simp; (try with_reducible rfl)))
          refine tk 1 ?_
          refine tk 2 ?_
          refine tk 3 ?_ (hy := fun wS hSw => by (go_simp; (try with_reducible rfl)))
          refine tk 4 ?_
          refine tk 5 ?_
          refine tk 6 ?_ (hy := fun wS hSw => by (go_simp; (try with_reducible rfl)))
          refine tk 7 ?_
          obtain ⟨ud, hud⟩ : ∃ z, z = wi.drew := ⟨_, rfl⟩
          have Yd : Below wi.heap.size wi ud := by rw [hud]; exact (Below.refl _ _).drew
          have zud := Yd.size
          rw [← hud]
          clear hud
          refine wpAnyH_ready (rs := [8, 12]) (by kernel_rfl) (by simp) ?_
          refine AllReadyH.cons (o := ?_) ?_ (fun K hK => ?_) ?_
          rotate_left
          · (simp only [List.getElem?_toArray, List.getElem?_cons_zero, List.getElem?_cons_succ]; rfl)
          · go_simp
            go_at_call 10
            refine (KS.out ud Yd).mono ?_
            rintro e wc1 ⟨⟨y0, my0, dy0, y1, my1, dy1, rfl, hoy⟩, hbwc1⟩
            have HBwc1 := Yd.trans (hbwc1.mono Yd.size)
            have zwc1 := hbwc1.size
            have HOY := Hid.mk hoy
            clear hoy
            (try go_wp2_with fail)
            refine hK.out _ _ ?_ (fun hHeld' => ?_)
            · (try dsimp only)
              exact HBwc1
            clear hK K hHeld
            have hHeld := hHeld'
            clear hHeld'
            (try simp only [Act.put, List.setIfInBounds_toArray, List.set_cons_zero, List.set_cons_succ])
            refine tk 9 ?_
            refine tk 10 ?_
            refine tk 11 ?_
            refine wpAnyH_ready (rs := [12]) (by kernel_rfl) (by simp) ?_
            refine AllReadyH.cons (o := ?_) ?_ (fun K hK => ?_) AllReadyH.nil
            rotate_left
            · (simp only [List.getElem?_toArray, List.getElem?_cons_zero, List.getElem?_cons_succ]; rfl)
            go_simp
            (try go_wp2_with fail)
            refine hK.out _ _ ?_ (fun hHeld' => ?_)
            · (try dsimp only)
              exact HBwc1.alloc HBwc1.size _
            clear hK K hHeld
            have hHeld := hHeld'
            clear hHeld'
            (try simp only [Act.put, List.setIfInBounds_toArray, List.set_cons_zero, List.set_cons_succ])
            obtain ⟨wc2, hvwc2⟩ : ∃ zz, zz = wc1.alloc (.cells #[.slice none 0 0, .slice none 0 0] 32) := ⟨_, rfl⟩
            have hbwc2 : Below wc1.heap.size wc1 wc2 := by rw [hvwc2]; exact (Below.refl _ _).alloc (Nat.le_refl _) _
            have HBwc2 := HBwc1.trans (hbwc2.mono HBwc1.size)
            have pb : wc2.heap[wc1.heap.size]? = some (.cells #[.slice none 0 0, .slice none 0 0] 32 (0, 0)) := by rw [hvwc2]; exact heap_alloc_new _ _
            have zwc2 : wc2.heap.size = wc1.heap.size + 1 := by rw [hvwc2]; simp
            have HOY := Hid.mk (RSnap.ownBelow HOY.out hbwc2)
            rw [← hvwc2]
            clear hvwc2
            have yy0 := blk_cell pb 0 (v := .slice none 0 0) rfl
            have yy1 := blk_cell pb 1 (v := .slice none 0 0) rfl
            have fy0 := blk_frozen pb 0
            have fy1 := blk_frozen pb 1
            have zl := HBwc2.size
            have HBE : Below wi.heap.size wi ((wc2.setCell ⟨wc1.heap.size, 0, none⟩ (.slice y0 my0 dy0)).setCell ⟨wc1.heap.size, 1, none⟩ (.slice y1 my1 dy1)) := (HBwc2.setCell (by show wi.heap.size ≤ wc1.heap.size; omega) _).setCell (by show wi.heap.size ≤ wc1.heap.size; omega) _
            refine wpAnyH_ready (rs := [13]) (by kernel_rfl) (by simp) ?_
            refine AllReadyH.cons (o := ?_) ?_ (fun K hK => ?_) AllReadyH.nil
            rotate_left
            · (simp only [List.getElem?_toArray, List.getElem?_cons_zero, List.getElem?_cons_succ]; rfl)
            go_simp
            skip
            (try go_wp2_with fail)
            refine hK.out _ _ ?_ (fun hHeld' => ?_)
            · (try dsimp only)
              exact HBE
            clear hK K hHeld
            have hHeld := hHeld'
            clear hHeld'
            (try simp only [Act.put, List.setIfInBounds_toArray, List.set_cons_zero, List.set_cons_succ])
            refine tk 14 ?_
            refine wpAnyH_done (by kernel_rfl) ?_ _
            (try go_wp2_with fail)
            go_meet
            case rel =>
              exact ⟨wc1.heap.size, y0, my0, dy0, y1, my1, dy1, rfl, rfl, blk_set (blk_set pb 0 _) 1 _, RSnap.mono (RSnap.ownOff HOY.out ((Off.set (F := fun b => b = wc1.heap.size) (a := ⟨wc1.heap.size, 0, none⟩) rfl _).trans (Off.set (F := fun b => b = wc1.heap.size) (a := ⟨wc1.heap.size, 1, none⟩) rfl _)) (fun b h e => by have h2 : b = wc1.heap.size := e; have h3 := h.1; have h4 := h.2; omega)) (fun b h => ⟨by have := h.1; omega, by rw [size_set, size_set]; have := h.2; omega, fun e => by have := h.1; have := h.2; omega⟩), HBE, by omega, by rw [size_set, size_set]; omega⟩
          refine AllReadyH.cons (o := ?_) ?_ (fun K hK => ?_) AllReadyH.nil
          rotate_left
          · (simp only [List.getElem?_toArray, List.getElem?_cons_zero, List.getElem?_cons_succ]; rfl)
          · go_simp
            (try go_wp2_with fail)
            refine hK.out _ _ ?_ (fun hHeld' => ?_)
            · (try dsimp only)
              exact Yd.alloc Yd.size _
            clear hK K hHeld
            have hHeld := hHeld'
            clear hHeld'
            (try simp only [Act.put, List.setIfInBounds_toArray, List.set_cons_zero, List.set_cons_succ])
            obtain ⟨wd1, hvwd1⟩ : ∃ zz, zz = ud.alloc (.cells #[.slice none 0 0, .slice none 0 0] 32) := ⟨_, rfl⟩
            have hbwd1 : Below ud.heap.size ud wd1 := by rw [hvwd1]; exact (Below.refl _ _).alloc (Nat.le_refl _) _
            have HBwd1 := Yd.trans (hbwd1.mono Yd.size)
            have pb : wd1.heap[ud.heap.size]? = some (.cells #[.slice none 0 0, .slice none 0 0] 32 (0, 0)) := by rw [hvwd1]; exact heap_alloc_new _ _
            have zwd1 : wd1.heap.size = ud.heap.size + 1 := by rw [hvwd1]; simp
            rw [← hvwd1]
            clear hvwd1
            refine wpAnyH_ready (rs := [8]) (by kernel_rfl) (by simp) ?_
            refine AllReadyH.cons (o := ?_) ?_ (fun K hK => ?_) AllReadyH.nil
            rotate_left
            · (simp only [List.getElem?_toArray, List.getElem?_cons_zero, List.getElem?_cons_succ]; rfl)
            go_simp
            go_at_call 10
            refine (KS.out wd1 HBwd1).mono ?_
            rintro e wd2 ⟨⟨y0, my0, dy0, y1, my1, dy1, rfl, hoy⟩, hbwd2⟩
            have HBwd2 := HBwd1.trans (hbwd2.mono HBwd1.size)
            have zwd2 := hbwd2.size
            have HOY := Hid.mk hoy
            clear hoy
            have pb := blk_below pb hbwd2
            (try go_wp2_with fail)
            refine hK.out _ _ ?_ (fun hHeld' => ?_)
            · (try dsimp only)
              exact HBwd2
            clear hK K hHeld
            have hHeld := hHeld'
            clear hHeld'
            (try simp only [Act.put, List.setIfInBounds_toArray, List.set_cons_zero, List.set_cons_succ])
            refine tk 9 ?_
            refine tk 10 ?_
            refine tk 11 ?_
            have yy0 := blk_cell pb 0 (v := .slice none 0 0) rfl
            have yy1 := blk_cell pb 1 (v := .slice none 0 0) rfl
            have fy0 := blk_frozen pb 0
            have fy1 := blk_frozen pb 1
            have zl := HBwd2.size
            have HBE : Below wi.heap.size wi ((wd2.setCell ⟨ud.heap.size, 0, none⟩ (.slice y0 my0 dy0)).setCell ⟨ud.heap.size, 1, none⟩ (.slice y1 my1 dy1)) := (HBwd2.setCell (by show wi.heap.size ≤ ud.heap.size; omega) _).setCell (by show wi.heap.size ≤ ud.heap.size; omega) _
            refine wpAnyH_ready (rs := [13]) (by kernel_rfl) (by simp) ?_
            refine AllReadyH.cons (o := ?_) ?_ (fun K hK => ?_) AllReadyH.nil
            rotate_left
            · (simp only [List.getElem?_toArray, List.getElem?_cons_zero, List.getElem?_cons_succ]; rfl)
            go_simp
            skip
            (try go_wp2_with fail)
            refine hK.out _ _ ?_ (fun hHeld' => ?_)
            · (try dsimp only)
              exact HBE
            clear hK K hHeld
            have hHeld := hHeld'
            clear hHeld'
            (try simp only [Act.put, List.setIfInBounds_toArray, List.set_cons_zero, List.set_cons_succ])
            refine tk 14 ?_
            refine wpAnyH_done (by kernel_rfl) ?_ _
            (try go_wp2_with fail)
            go_meet
            case rel =>
              exact ⟨ud.heap.size, y0, my0, dy0, y1, my1, dy1, rfl, rfl, blk_set (blk_set pb 0 _) 1 _, RSnap.mono (RSnap.ownOff HOY.out ((Off.set (F := fun b => b = ud.heap.size) (a := ⟨ud.heap.size, 0, none⟩) rfl _).trans (Off.set (F := fun b => b = ud.heap.size) (a := ⟨ud.heap.size, 1, none⟩) rfl _)) (fun b h e => by have h2 : b = ud.heap.size := e; have h3 := h.1; have h4 := h.2; omega)) (fun b h => ⟨by have := h.1; omega, by rw [size_set, size_set]; have := h.2; omega, fun e => by have := h.1; have := h.2; omega⟩), HBE, by omega, by rw [size_set, size_set]; omega⟩
        case rest =>
        obtain ⟨P, y0, my0, dy0, y1, my1, dy1, rfl, rfl, bP, hoy, BYX, zPa, zPb⟩ := hcut
        obtain ⟨wX, rfl⟩ : ∃ x, x = wc := ⟨_, rfl⟩
        have b0 := blk_below b0 BYX
        have b1 := blk_below b1 BYX
        have BX := Bwi.trans (BYX.mono Bwi.size)
        have zYX := BYX.size
        have HOY := Hid.mk hoy
        clear hoy KS p0 p1 BYX hq hq2 hr hr2
        cases SB with
        | false =>
          have HRS : Hid ((false, 0, (([], []) : TSnap)) = RES) := Hid.mk (by rw [← HRS.out, HM.out, fzS_no HAW.out HSB.out])
          clear bP
          have y0 := blk_cell b1 0 (v := .slice none 0 0) rfl
          have y1 := blk_cell b1 1 (v := .slice none 0 0) rfl
          have fz0 := blk_frozen b1 0
          have fz1 := blk_frozen b1 1
          obtain ⟨Y, hY⟩ : ∃ u, u = (wX.setCell ⟨w.heap.size + 1, 0, none⟩ (.slice none 0 0)).setCell ⟨w.heap.size + 1, 1, none⟩ (.slice none 0 0) := ⟨_, rfl⟩
          have S1 : Off (fun b => b = w.heap.size + 1) wX Y := by rw [hY]; exact (Off.set (F := fun b => b = w.heap.size + 1) (a := ⟨w.heap.size + 1, 0, none⟩) rfl _).trans (Off.set (F := fun b => b = w.heap.size + 1) (a := ⟨w.heap.size + 1, 1, none⟩) rfl _)
          have RR : Hid (TaRet (.returned (.tuple #[.agg #[.slice none 0 0, .slice none 0 0], .int .i64 0, .bool false])) w Y F RES ∧ Below w.heap.size w Y) := Hid.mk (by
            have zS := S1.size
            rw [← HRS.out]
            exact ⟨⟨none, 0, 0, none, 0, 0, rfl, RSnap.nil _ _⟩, BX.trans (S1.belowOf (fun b h => by have h2 : b = w.heap.size + 1 := h; omega) (by omega))⟩)
          have HY := Hid.mk hY
          clear S1 hY HRS HOZ HOY HGG HF HJZ b0 b1
          go_wp2
          refine bodyPost_ret (v := .tuple #[.agg #[.slice none 0 0, .slice none 0 0], .int .i64 0, .bool false]) (by simp [results, Try.results50, go_sem, y0, y1]) rfl ?_
          have h := RR.out
          rw [HY.out] at h
          exact h
        | true =>
          obtain ⟨ps', ws'⟩ := SX
          have hnx := fz_next HSB.out
          rw [HSX.out] at hnx
          have HNX := Hid.mk hnx
          have HRN : Hid (fzS (2000 - (k + 1)) (ps', ws') (k + 1) = RES) := Hid.mk (by rw [← HRS.out, HM.out, fzS_yes HAW.out HSB.out, HSX.out, show 2000 - (k + 1) = 1999 - k by omega])
          clear hnx
          have p0 := blk_cell bP 0 (v := .slice y0 my0 dy0) rfl
          have p1 := blk_cell bP 1 (v := .slice y1 my1 dy1) rfl
          have o0 := blk_cell b0 0 (v := .slice r0 mr0 dr0) rfl
          have o1 := blk_cell b0 1 (v := .slice r1 mr1 dr1) rfl
          have fo0 := blk_frozen b0 0
          have fo1 := blk_frozen b0 1
          obtain ⟨Xr, hX⟩ : ∃ u, u = (wX.setCell ⟨w.heap.size, 0, none⟩ (.slice y0 my0 dy0)).setCell ⟨w.heap.size, 1, none⟩ (.slice y1 my1 dy1) := ⟨_, rfl⟩
          have b0' : Xr.heap[w.heap.size]? = some (.cells #[.slice y0 my0 dy0, .slice y1 my1 dy1] 32 (0, 0)) := by rw [hX]; exact blk_set (blk_set b0 0 _) 1 _
          have b1' : Xr.heap[w.heap.size + 1]? = some (.cells #[.slice none 0 0, .slice none 0 0] 32 (0, 0)) := by rw [hX]; exact blk_other (blk_other b1 (by show w.heap.size + 1 ≠ w.heap.size; omega) _) (by show w.heap.size + 1 ≠ w.heap.size; omega) _
          have hS : Off (fun b => b = w.heap.size) wX Xr := by rw [hX]; exact (Off.set (F := fun b => b = w.heap.size) (a := ⟨w.heap.size, 0, none⟩) rfl _).trans (Off.set (F := fun b => b = w.heap.size) (a := ⟨w.heap.size, 1, none⟩) rfl _)
          have zXr := hS.size
          have BXr : Below w.heap.size w Xr := BX.trans (hS.belowOf (fun b h => by have h2 : b = w.heap.size := h; omega) (by omega))
          have HREL : Hid (∃ (r0 : Option Addr) (mr0 dr0 : Nat) (r1 : Option Addr) (mr1 dr1 : Nat) (ps : List TProc) (ws : List TWire) (G : Nat → Prop), Xr.heap[w.heap.size]? = some (.cells #[.slice r0 mr0 dr0, .slice r1 mr1 dr1] 32 (0, 0)) ∧ Xr.heap[w.heap.size + 1]? = some (.cells #[.slice none 0 0, .slice none 0 0] 32 (0, 0)) ∧ RSnap.Own Xr G [.slice r0 mr0 dr0, .slice r1 mr1 dr1] (ps, ws) ∧ gsB (ps, ws) = true ∧ ps.length = n ∧ fzS (2000 - (k + 1)) (ps, ws) (k + 1) = RES ∧ (∀ b, G b → (F b ∨ w.heap.size + 2 ≤ b) ∧ b < Xr.heap.size) ∧ Below w.heap.size w Xr ∧ w.heap.size + 1 < Xr.heap.size) := Hid.mk ⟨y0, my0, dy0, y1, my1, dy1, ps', ws', _, b0', b1', RSnap.ownOff HOY.out hS (fun b h e => by have h2 : b = w.heap.size := e; have := h.1; omega), HNX.out.1, HNX.out.2.trans HLN.out, HRN.out, fun b h => ⟨.inr (by have := h.1; omega), by have := h.2.1; omega⟩, BXr, by omega⟩
          clear b0 b1 b0' b1' hS bP HOY HOZ HRS HRN HNX HGG
          go_upto_region 12 with fail
          rw [← hX]
          clear hX p0 p1 o0 o1 fo0 fo1
          go_wp2
          go_roundw
          case rel =>
            obtain ⟨r0, mr0, dr0, r1, mr1, dr1, ps, ws, G, q⟩ := HREL.out
            exact ⟨k + 1, r0, mr0, dr0, r1, mr1, dr1, ps, ws, G, by go_num, by omega, q⟩
          case measure => simp [intOf]; omega
    · have hlti : ¬ (k : Int) < 2000 := by omega
      obtain rfl : k = 2000 := by omega
      have HJZ := Hid.mk hjz
      have HOZ := Hid.mk hoz
      clear hjz hoz hln
      have p0 := blk_cell b0 0 (v := .slice r0 mr0 dr0) rfl
      have p1 := blk_cell b0 1 (v := .slice r1 mr1 dr1) rfl
      have y0 := blk_cell b1 0 (v := .slice none 0 0) rfl
      have y1 := blk_cell b1 1 (v := .slice none 0 0) rfl
      have fz0 := blk_frozen b1 0
      have fz1 := blk_frozen b1 1
      obtain ⟨Y, hY⟩ : ∃ u, u = (wY.setCell ⟨w.heap.size + 1, 0, none⟩ (.slice r0 mr0 dr0)).setCell ⟨w.heap.size + 1, 1, none⟩ (.slice r1 mr1 dr1) := ⟨_, rfl⟩
      have S1 : Off (fun b => b = w.heap.size + 1) wY Y := by rw [hY]; exact (Off.set (F := fun b => b = w.heap.size + 1) (a := ⟨w.heap.size + 1, 0, none⟩) rfl _).trans (Off.set (F := fun b => b = w.heap.size + 1) (a := ⟨w.heap.size + 1, 1, none⟩) rfl _)
      have RR : Hid (TaRet (.returned (.tuple #[.agg #[.slice r0 mr0 dr0, .slice r1 mr1 dr1], .int .i64 2000, .bool true])) w Y F RES ∧ Below w.heap.size w Y) := Hid.mk (by
        have zS := S1.size
        rw [← HRS.out]
        refine ⟨⟨r0, mr0, dr0, r1, mr1, dr1, rfl, RSnap.mono (RSnap.ownOff HOZ.out S1 (fun b h e => by have h2 : b = w.heap.size + 1 := e; have h3 := HGG.out b h; rcases h3.1 with h4 | h4; have := HF.out b h4; omega; omega)) (fun b h => ?_)⟩, BwY.trans (S1.belowOf (fun b h => by have h2 : b = w.heap.size + 1 := h; omega) (by omega))⟩
        have h3 := HGG.out b h
        rcases h3.1 with h4 | h4
        · exact .inl h4
        · exact .inr ⟨by omega, by omega⟩)
      have HY := Hid.mk hY
      clear S1 hY HOZ HRS HGG HF HJZ b0 b1
      go_wp2
      refine bodyPost_ret (v := .tuple #[.agg #[.slice r0 mr0 dr0, .slice r1 mr1 dr1], .int .i64 2000, .bool true]) (by simp [results, Try.results50, go_sem, y0, y1]) rfl ?_
      have h := RR.out
      rw [HY.out] at h
      exact h

end Go.Proofs.Ytnfdncofobkjhaa
