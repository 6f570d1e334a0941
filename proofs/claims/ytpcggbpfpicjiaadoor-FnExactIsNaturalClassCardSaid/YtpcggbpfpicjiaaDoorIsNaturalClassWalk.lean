/- The walk of FnExactIsNaturalClass: it returns true at every argument, and writes nothing that was there. -/
import Derived.Test.YtpcggbpfpicjiaaDoorM3
import Derived.Test.YtpcggbpfpicjiaaDoorL1
import Derived.OpenShut
namespace Go.Proofs.YtpcggbpfpicjiaaDoor.fnExactIsNaturalClass
open Go.ChangeShapes Go.RowKit Go.Proofs.YtpcggbpfpicjiaaDoor
theorem walk (s : ByteArray) (w0 : s.size ≤ maxLen) (w : World) (hL : laidMetH Tryd.prog Rows.fnExactIsNaturalClassRow.laid w) :
    Calls Tryd.prog 8 #[.string s] w fun e w' => e = .returned (.bool true) ∧ Below w.heap.size w w' := by
  have hT : FeatTab w := feat_of hL
  have HT := Lib.hid hT
  have HW := Lib.hid w0
  have ws : s.size ≤ 9223372036854775807 := by unfold maxLen at w0; omega
  clear hT hL w0
  go_enter Tryd.func8, Tryd.ntmps8
  go_wp2_with fail
  · go_ret
    exact ⟨rfl, Below.refl _ _⟩
  refine (specInc_any _ _ HW.out).mono ?_
  rintro e w1 ⟨rfl, hb1⟩
  have H1 := Lib.hid hb1
  clear hb1
  go_wp2_with fail
  refine (implInc_any _ _ (feat_below HT.out H1.out)).mono ?_
  rintro e w2 ⟨rfl, hb⟩
  go_wp2
  go_ret
  exact ⟨rfl, H1.out.trans (hb.mono H1.out.size)⟩
end Go.Proofs.YtpcggbpfpicjiaaDoor.fnExactIsNaturalClass
