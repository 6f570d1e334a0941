/- The model's HasFeature: what it answers. -/
import Derived.Test.YtlcjpbjnjnolfaaDoorSnd
import Derived.Laws.IdiomStrings
import Derived.Lib.Slices
namespace Go.Proofs.YtlcjpbjnjnolfaaDoor
set_option maxRecDepth 100000
open Go.RowKit

set_option maxHeartbeats 400000 in
theorem specHas_any (x f : Int) (w : World) :
    Calls Tryd.prog 34 #[.int .u8 x, .int .i64 f] w fun e w' => e = .returned (.bool (hasF x f)) ∧ w = w' := by
  go_enter Tryd.func34, Tryd.ntmps34
  go_wp2
  all_goals
    go_ret
    refine ⟨ret_bool ?_, rfl⟩
    unfold hasF
    simp_all
end Go.Proofs.YtlcjpbjnjnolfaaDoor
