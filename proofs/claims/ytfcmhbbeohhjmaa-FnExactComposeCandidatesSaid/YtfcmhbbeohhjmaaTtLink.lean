/- The laws' toLink. -/
import Derived.Test.YtfcmhbbeohhjmaaTrLink
import Derived.WalkKit
import Derived.BigQuiet
import Derived.Lib.QuietBelow
import Derived.Test.YtfcmhbbeohhjmaaRows
import Derived.Test.YtfcmhbbeohhjmaaRet
namespace Go.Proofs.Ytfcmhbbeohhjmaa
set_option maxRecDepth 100000
open Go.RowKit Go.Sort
set_option linter.unusedVariables false
set_option linter.unusedSimpArgs false

set_option maxHeartbeats 8000000 in
theorem toLink_any (x : DLink) (F : Addr → Prop) (w : World) (hm : rLink.sz x ≤ 1048576) :
    Calls Try.prog 52 #[.agg #[.int .u8 (x.In.toNat : Int), .int .u8 (x.Out.toNat : Int)]] w fun e w' => e = .returned (.agg #[.int .u8 (x.In.toNat : Int), .int .u8 (x.Out.toNat : Int)]) ∧ Below w.heap.size w w' := by
  generalize x.In = y0 at *
  generalize x.Out = y1 at *
  go_enter Try.func52, Try.ntmps52
  go_wp2
  refine bodyPost_ret (v := .agg #[.int .u8 (y0.toNat : Int), .int .u8 (y1.toNat : Int)]) (results_cell_row rfl _ _ (w.heap.size + 1) 40 _ (0, 0) _ rfl ((Below.heap_alloc _ _ _ (by simp)).trans (by have := heap_alloc_new (w.alloc (.cells #[.int .u8 (y0.toNat : Int), .int .u8 (y1.toNat : Int)] 55)) (.cells #[.int .u8 (y0.toNat : Int), .int .u8 (y1.toNat : Int)] 40); rwa [World.size_alloc] at this)) Try.underlying40 rfl (by kernel_rfl)) rfl ⟨rfl, ?_⟩
  exact (((Below.refl _ _).alloc (Nat.le_refl _) _).alloc (by simp) _).alloc (by simp; omega) _
end Go.Proofs.Ytfcmhbbeohhjmaa
