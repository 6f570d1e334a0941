/- The laws' eqFoot. -/
import Derived.Test.YtifmcbhgoncgjaaDoorTrFoot
import Derived.WalkKit
import Derived.BigQuiet
import Derived.Lib.QuietBelow
import Derived.Test.YtifmcbhgoncgjaaDoorRows
import Derived.Test.YtifmcbhgoncgjaaDoorRet
namespace Go.Proofs.YtifmcbhgoncgjaaDoor
open Go.RowKit Go.Sort
set_option linter.unusedVariables false
set_option linter.unusedSimpArgs false

theorem eqFoot_any (x : DFoot) (F G : Addr → Prop) (w : World) :
    Calls Tryd.prog 50 #[.agg #[.int .i64 x.From, .int .i64 x.Size, .int .i64 x.Head], .agg #[.int .i64 x.From, .int .i64 x.Size, .int .i64 x.Head]] w fun e w' => e = .returned (.bool true) ∧ Below w.heap.size w w' := by
  generalize x.From = y0 at *
  generalize x.Size = y1 at *
  generalize x.Head = y2 at *
  go_enter Tryd.func50, Tryd.ntmps50
  go_wp2
  go_ret
  exact ⟨rfl, ((Below.refl _ _).alloc (Nat.le_refl _) _).alloc (by simp) _⟩
end Go.Proofs.YtifmcbhgoncgjaaDoor
