/- The walk of FnExactIsPerfect: it returns true at every argument, and writes nothing that was there. -/
import Derived.Test.YtlcjpbjnjnolfaaDoorMs8
import Derived.Test.YtlcjpbjnjnolfaaDoorIc8
import Derived.OpenShut
namespace Go.Proofs.YtlcjpbjnjnolfaaDoor.fnExactIsPerfect
set_option maxRecDepth 100000
open Go.ChangeShapes Go.RowKit Go.Proofs.YtlcjpbjnjnolfaaDoor
theorem walk (s : ByteArray) (w0 : s.size ≤ maxLen) (w : World) (hL : laidMetH Tryd.prog Rows.fnExactIsPerfectRow.laid w) :
    Calls Tryd.prog 9 #[.string s] w fun e w' => e = .returned (.bool true) ∧ Below w.heap.size w w' := by
  have hT : FeatTab w := feat_of hL
  have HT := Lib.hid hT
  clear hT hL
  have HW := Lib.hid w0
  have ws : s.size ≤ 9223372036854775807 := by unfold maxLen at w0; omega
  clear w0
  go_enter Tryd.func9, Tryd.ntmps9
  go_wp2_with fail
  · go_ret
    exact ⟨rfl, Below.refl _ _⟩
  refine (specPerf_any _ _ HW.out).mono ?_
  rintro e w1 ⟨rfl, rfl⟩
  go_wp2_with fail
  refine (implPerf_any _ _ HW.out HT.out).mono ?_
  rintro e w2 ⟨rfl, hb⟩
  go_wp2
  go_ret
  exact ⟨rfl, hb⟩
end Go.Proofs.YtlcjpbjnjnolfaaDoor.fnExactIsPerfect
