/- The walk of FnExactSoundsWith: it returns true at every argument, and writes nothing that was there. -/
import Derived.Test.YtpcggbpfpicjiaaDoorM3
import Derived.Test.YtpcggbpfpicjiaaDoorL1
import Derived.OpenShut
namespace Go.Proofs.YtpcggbpfpicjiaaDoor.fnExactSoundsWith
open Go.ChangeShapes Go.RowKit Go.Proofs.YtpcggbpfpicjiaaDoor
theorem walk (f : Int) (y : Bool) (w : World) (hL : laidMetH Tryd.prog Rows.fnExactSoundsWithRow.laid w) :
    Calls Tryd.prog 5 #[.int .i64 f, .bool y] w fun e w' => e = .returned (.bool true) ∧ Below w.heap.size w w' := by
  have hT : FeatTab w := feat_of hL
  have HT := Lib.hid hT
  clear hT hL
  go_enter Tryd.func5, Tryd.ntmps5
  go_wp2_with fail
  refine (specSw_any _ _ _).mono ?_
  rintro e w1 ⟨rfl, rfl⟩
  go_wp2_with fail
  refine (implSw_any _ _ _ HT.out).mono ?_
  rintro e w2 ⟨rfl, hb⟩
  go_wp2
  go_ret
  exact ⟨rfl, hb⟩
end Go.Proofs.YtpcggbpfpicjiaaDoor.fnExactSoundsWith
