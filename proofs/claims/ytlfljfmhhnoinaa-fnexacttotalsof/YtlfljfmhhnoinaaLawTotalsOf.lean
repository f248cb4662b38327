/- The law FnExactTotalsOf returns true at every list of groups, and writes nothing that was there. -/
import Derived.Test.YtlfljfmhhnoinaaLawV
import Derived.Test.YtlfljfmhhnoinaaTotX
namespace Go.Proofs.Ytlfljfmhhnoinaa
open Go.RowKit

set_option maxHeartbeats 2000000 in
theorem lawTotalsOf (a : Option Addr) (n c : Nat) (ts : List GRow) (w : World) (hz : ts.length = n) (hn : n ≤ 9223372036854775807) (ha : AtV w a ts) :
    Calls Try.prog 6 #[.slice a n c] w fun e w' => e = .returned (.bool true) ∧ Below w.heap.size w w' := by
  obtain ⟨T1, hT1⟩ : ∃ T1, (totZ ts).1 = T1 := ⟨_, rfl⟩
  obtain ⟨T2, hT2⟩ : ∃ T2, (totZ ts).2 = T2 := ⟨_, rfl⟩
  obtain ⟨TB, hTB⟩ : ∃ TB, totB ts = TB := ⟨_, rfl⟩
  have HT1 := Hid.mk hT1
  have HT2 := Hid.mk hT2
  have HTB := Hid.mk hTB
  clear hT1 hT2 hTB
  by_cases hbig : (1048576 : Int) < vtot ts n
  · go_enter Try.func6, Try.ntmps6
    go_wp2_with fail
    refine (szGroupS_any _ _ _ ts _ _ hz hn (by omega) (by omega) ha).mono ?_
    rintro e w1 ⟨rfl, hb1⟩
    rw [leftOf_no hbig]
    go_wp2
    go_ret
    exact ⟨rfl, hb1⟩
  · have hs : SmV ts n := ⟨hz, by omega⟩
    have hl : ¬ (1048576 : Int) - vtot ts n < 0 := by omega
    go_enter Try.func6, Try.ntmps6
    go_wp2_with fail
    refine (szGroupS_any _ _ _ ts _ _ hz hn (by omega) (by omega) ha).mono ?_
    rintro e w1 ⟨rfl, B1⟩
    rw [leftOf_yes (by omega)]
    go_wp2_with fail
    refine (toGroupSG _ _ _ ts _ hs (ha.below B1)).mono ?_
    rintro e w2 ⟨g2, rfl, ho2, hb2⟩
    have B2 : Below w.heap.size w w2 := B1.trans (hb2.mono B1.size)
    clear hb2 B1
    go_wp2_with fail
    refine (specTotalsOf _ _ _ ts _ hz hs.n (ho2.atV hs)).mono ?_
    rintro e w3 ⟨rfl, hb3⟩
    rw [HT1.out, HT2.out, HTB.out]
    have B3 : Below w.heap.size w w3 := B2.trans (hb3.mono B2.size)
    clear hb3 B2 ho2
    go_wp2_with fail
    refine (toGroupSG _ _ _ ts _ hs (ha.below B3)).mono ?_
    rintro e w4 ⟨g4, rfl, ho4, hb4⟩
    have B4 : Below w.heap.size w w4 := B3.trans (hb4.mono B3.size)
    clear hb4 B3
    go_wp2_with fail
    refine (implTotalsOf _ _ _ ts _ hz hs.n (ho4.atV hs)).mono ?_
    rintro e w5 ⟨rfl, hb5⟩
    rw [HT1.out, HT2.out, HTB.out]
    have B5 : Below w.heap.size w w5 := B4.trans (hb5.mono B4.size)
    have o5 := ho4.below hb5
    clear hb5 B4 ho4
    go_wp2_with fail
    refine (toGroupSG _ _ _ ts _ hs (ha.below B5)).mono ?_
    rintro e w6 ⟨g6, rfl, ho6, hb6⟩
    have B6 : Below w.heap.size w w6 := B5.trans (hb6.mono B5.size)
    have o6 := o5.below hb6
    clear hb6 B5 o5
    go_wp2_with fail
    refine (eqGroupSG _ _ _ _ _ ts _ hs (o6.atV hs) (ho6.atV hs)).mono ?_
    rintro e w7 ⟨rfl, hb7⟩
    go_wp2
    go_ret
    exact ⟨rfl, B6.trans (hb7.mono B6.size)⟩

end Go.Proofs.Ytlfljfmhhnoinaa
