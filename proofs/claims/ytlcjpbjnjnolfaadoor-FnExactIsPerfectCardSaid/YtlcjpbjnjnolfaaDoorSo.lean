/- The model's IsObstruent: what it answers. -/
import Derived.Test.YtlcjpbjnjnolfaaDoorSnd
namespace Go.Proofs.YtlcjpbjnjnolfaaDoor
set_option maxRecDepth 100000
open Go.RowKit

theorem specIsObs_any (x : Int) (w : World) :
    Calls Tryd.prog 35 #[.int .u8 x] w fun e w' => e = .returned (.bool (isObs x)) ∧ w = w' := by
  go_enter Tryd.func35, Tryd.ntmps35
  go_wp2
  all_goals
    go_ret
    refine ⟨ret_bool ?_, rfl⟩
    unfold isObs
    simp_all
end Go.Proofs.YtlcjpbjnjnolfaaDoor
