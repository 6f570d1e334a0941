/- The walk of FnExactHasFeature: it returns true at every byte and number, and writes nothing that was there. -/
import Derived.Test.YtpcggbpfpicjiaaDoorS2
import Derived.OpenShut
namespace Go.Proofs.YtpcggbpfpicjiaaDoor.fnExactHasFeature
open Go.ChangeShapes Go.RowKit
theorem walk (x f : Int) (w0 : (Lit.int .u8 x).wf = true) (w : World) (hL : laidMetH Tryd.prog Rows.fnExactHasFeatureRow.laid w) :
    Calls Tryd.prog 4 #[.int .u8 x, .int .i64 f] w fun e w' => e = .returned (.bool true) ∧ Below w.heap.size w w' := by
  have hT : FeatTab w := feat_of hL
  have hbd : 0 ≤ x ∧ x < 256 := by have := bounds_u8 w0; omega
  have HB := Lib.hid hbd
  have HT := Lib.hid hT
  clear hbd w0 hT hL
  go_enter Tryd.func4, Tryd.ntmps4
  go_wp2_with fail
  refine (specHas_any _ _ _).mono ?_
  rintro e w1 ⟨rfl, rfl⟩
  go_wp2_with fail
  refine (implHas_any _ _ _ HB.out.1 HB.out.2 HT.out).mono ?_
  rintro e w2 ⟨rfl, rfl⟩
  go_wp2
  go_ret
  exact ⟨rfl, Below.refl _ _⟩
end Go.Proofs.YtpcggbpfpicjiaaDoor.fnExactHasFeature
