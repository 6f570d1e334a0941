/- The laws' toFoot. -/
import Derived.Test.YtifmcbhgoncgjaaTrFoot
import Derived.WalkKit
import Derived.BigQuiet
import Derived.Lib.QuietBelow
import Derived.Test.YtifmcbhgoncgjaaRows
import Derived.Test.YtifmcbhgoncgjaaRet
namespace Go.Proofs.Ytifmcbhgoncgjaa
open Go.RowKit Go.Sort
set_option linter.unusedVariables false
set_option linter.unusedSimpArgs false

set_option maxHeartbeats 8000000 in
theorem toFoot_any (x : DFoot) (F : Addr → Prop) (w : World) (hm : rFoot.sz x ≤ 1048576) :
    Calls Try.prog 45 #[.agg #[.int .i64 x.From, .int .i64 x.Size, .int .i64 x.Head]] w fun e w' => e = .returned (.agg #[.int .i64 x.From, .int .i64 x.Size, .int .i64 x.Head]) ∧ Below w.heap.size w w' := by
  generalize x.From = y0 at *
  generalize x.Size = y1 at *
  generalize x.Head = y2 at *
  go_enter Try.func45, Try.ntmps45
  go_wp2
  refine bodyPost_ret (v := .agg #[.int .i64 y0, .int .i64 y1, .int .i64 y2]) (results_cell_row rfl _ _ (w.heap.size + 1) 49 _ (0, 0) _ rfl ((Below.heap_alloc _ _ _ (by simp)).trans (by have := heap_alloc_new (w.alloc (.cells #[.int .i64 y0, .int .i64 y1, .int .i64 y2] 61)) (.cells #[.int .i64 y0, .int .i64 y1, .int .i64 y2] 49); rwa [World.size_alloc] at this)) Try.underlying49 rfl (by kernel_rfl)) rfl ⟨rfl, ?_⟩
  exact (((Below.refl _ _).alloc (Nat.le_refl _) _).alloc (by simp) _).alloc (by simp; omega) _
end Go.Proofs.Ytifmcbhgoncgjaa
