/- The laws' toFoot. -/
import Derived.Test.YtifmcbhgoncgjaaDoorTrFoot
import Derived.WalkKit
import Derived.BigQuiet
import Derived.Lib.QuietBelow
import Derived.Test.YtifmcbhgoncgjaaDoorRows
import Derived.Test.YtifmcbhgoncgjaaDoorRet
namespace Go.Proofs.YtifmcbhgoncgjaaDoor
open Go.RowKit Go.Sort
set_option linter.unusedVariables false
set_option linter.unusedSimpArgs false

set_option maxHeartbeats 8000000 in
theorem toFoot_any (x : DFoot) (F : Addr → Prop) (w : World) (hm : rFoot.sz x ≤ 1048576) :
    Calls Tryd.prog 49 #[.agg #[.int .i64 x.From, .int .i64 x.Size, .int .i64 x.Head]] w fun e w' => e = .returned (.agg #[.int .i64 x.From, .int .i64 x.Size, .int .i64 x.Head]) ∧ Below w.heap.size w w' := by
  generalize x.From = y0 at *
  generalize x.Size = y1 at *
  generalize x.Head = y2 at *
  go_enter Tryd.func49, Tryd.ntmps49
  go_wp2
  refine bodyPost_ret (v := .agg #[.int .i64 y0, .int .i64 y1, .int .i64 y2]) (results_cell_row rfl _ _ (w.heap.size + 1) 53 _ (0, 0) _ rfl ((Below.heap_alloc _ _ _ (by simp)).trans (by have := heap_alloc_new (w.alloc (.cells #[.int .i64 y0, .int .i64 y1, .int .i64 y2] 71)) (.cells #[.int .i64 y0, .int .i64 y1, .int .i64 y2] 53); rwa [World.size_alloc] at this)) Tryd.underlying53 rfl (by kernel_rfl)) rfl ⟨rfl, ?_⟩
  exact (((Below.refl _ _).alloc (Nat.le_refl _) _).alloc (by simp) _).alloc (by simp; omega) _
end Go.Proofs.YtifmcbhgoncgjaaDoor
