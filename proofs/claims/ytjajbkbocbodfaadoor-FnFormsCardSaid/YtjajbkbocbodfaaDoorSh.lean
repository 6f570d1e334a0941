/- The model's HasFeature: what it answers. -/
import Derived.Test.YtjajbkbocbodfaaDoorSnd
import Derived.Laws.IdiomStrings
import Derived.Lib.Slices
namespace Go.Proofs.YtjajbkbocbodfaaDoor
open Go.RowKit

set_option maxHeartbeats 400000 in
theorem specHas_any (x f : Int) (w : World) :
    Calls Tryd.prog 60 #[.int .u8 x, .int .i64 f] w fun e w' => e = .returned (.bool (hasF x f)) ∧ w = w' := by
  go_enter Tryd.func60, Tryd.ntmps60
  go_wp2
  all_goals
    go_ret
    refine ⟨ret_bool ?_, rfl⟩
    unfold hasF
    simp_all
end Go.Proofs.YtjajbkbocbodfaaDoor
