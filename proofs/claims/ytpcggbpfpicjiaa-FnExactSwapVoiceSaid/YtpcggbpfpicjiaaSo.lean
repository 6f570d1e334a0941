/- The model's IsObstruent: what it answers. -/
import Derived.Test.YtpcggbpfpicjiaaS1
namespace Go.Proofs.Ytpcggbpfpicjiaa
open Go.RowKit

theorem specIsObs_any (x : Int) (w : World) :
    Calls Try.prog 8 #[.int .u8 x] w fun e w' => e = .returned (.bool (isObs x)) ∧ w = w' := by
  go_enter Try.func8, Try.ntmps8
  go_wp2
  all_goals
    go_ret
    refine ⟨ret_bool ?_, rfl⟩
    unfold isObs
    simp_all
end Go.Proofs.Ytpcggbpfpicjiaa
