/- The walk of FnExactSharedFeatures: it returns true at every argument, and writes nothing that was there. -/
import Derived.Test.YtpcggbpfpicjiaaDoorM3
import Derived.Test.YtpcggbpfpicjiaaDoorL1
import Derived.OpenShut
namespace Go.Proofs.YtpcggbpfpicjiaaDoor.fnExactSharedFeatures
open Go.ChangeShapes Go.RowKit Go.Proofs.YtpcggbpfpicjiaaDoor
set_option maxHeartbeats 800000 in
theorem walk (s : ByteArray) (w0 : s.size ≤ maxLen) (w : World) (hL : laidMetH Tryd.prog Rows.fnExactSharedFeaturesRow.laid w) :
    Calls Tryd.prog 6 #[.string s] w fun e w' => e = .returned (.bool true) ∧ Below w.heap.size w w' := by
  have hT : FeatTab w := feat_of hL
  have HT := Lib.hid hT
  have HW := Lib.hid w0
  have ws : s.size ≤ 9223372036854775807 := by unfold maxLen at w0; omega
  have HN : Hid ((sfL s.data.toList).length ≤ 1000000000) := by
    unfold Hid sfL
    split
    · have := sfTo_len (shv s.data.toList) 5; omega
    · exact Nat.zero_le _
  clear hT hL w0
  go_enter Tryd.func6, Tryd.ntmps6
  go_wp2_with fail
  · go_ret
    exact ⟨rfl, Below.refl _ _⟩
  refine (specSf_any _ _ HW.out).mono ?_
  rintro e w1 ⟨v0, rfl, o1, hb1⟩
  have O0 := Lib.hid o1
  have B1 := Lib.hid hb1
  clear o1 hb1
  go_wp2_with fail
  refine (implSf_any _ _ (feat_below HT.out B1.out)).mono ?_
  rintro e w2 ⟨v1, rfl, o2, hb2⟩
  have O1 := Lib.hid o2
  have C2 := Lib.hid hb2
  clear o2 hb2
  go_wp2_with fail
  refine (eqIntS_any _ _ _ _ _ _ HN.out O1.out (own_kept C2.out O0.out)).mono ?_
  rintro e w3 ⟨rfl, hb3⟩
  have C3 := Lib.hid (C2.out.trans (hb3.mono C2.out.size))
  have O13 := Lib.hid (own_kept hb3 O1.out)
  clear hb3
  go_wp2_with fail
  refine (markIntS_any _ _ _ _ HN.out O13.out).mono ?_
  rintro e w4 ⟨rfl, o4, hb4⟩
  have C4 := Lib.hid (C3.out.trans hb4)
  have O14 := Lib.hid o4
  clear o4 hb4
  go_wp2_with fail
  refine (heldIntS_any _ _ _ _ HN.out O14.out).mono ?_
  rintro e w5 ⟨rfl, rfl⟩
  have hnn : ¬ 1 + ((sfL s.data.toList).length : Int) < 0 := by omega
  go_wp2_with fail
  refine (implSf_any _ _ (feat_below HT.out (B1.out.trans (C4.out.mono B1.out.size)))).mono ?_
  rintro e w6 ⟨v2, rfl, o6, hb6⟩
  have O26 := Lib.hid o6
  have O16 := Lib.hid (own_kept hb6 O14.out)
  have C6 := Lib.hid (C4.out.trans (hb6.mono C4.out.size))
  clear o6 hb6
  go_wp2_with fail
  refine (eqIntS_any _ _ _ _ _ _ HN.out O26.out (own_kept C6.out O0.out)).mono ?_
  rintro e w7 ⟨rfl, hb7⟩
  have O17 := Lib.hid (own_kept hb7 O16.out)
  have C7 := Lib.hid (C6.out.trans (hb7.mono C6.out.size))
  clear hb7
  go_wp2_with fail
  refine (heldIntS_any _ _ _ _ HN.out O17.out).mono ?_
  rintro e w8 ⟨rfl, rfl⟩
  go_wp2
  go_ret
  exact ⟨rfl, B1.out.trans (C7.out.mono B1.out.size)⟩
end Go.Proofs.YtpcggbpfpicjiaaDoor.fnExactSharedFeatures
