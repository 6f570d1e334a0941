/- The laws' eqLink. -/
import Derived.Test.YtfcmhbbeohhjmaaTrLink
import Derived.WalkKit
import Derived.BigQuiet
import Derived.Lib.QuietBelow
import Derived.Test.YtfcmhbbeohhjmaaRows
import Derived.Test.YtfcmhbbeohhjmaaRet
namespace Go.Proofs.Ytfcmhbbeohhjmaa
set_option maxRecDepth 100000
open Go.RowKit Go.Sort
set_option linter.unusedVariables false
set_option linter.unusedSimpArgs false

theorem eqLink_any (x : DLink) (F G : Addr → Prop) (w : World) :
    Calls Try.prog 53 #[.agg #[.int .u8 (x.In.toNat : Int), .int .u8 (x.Out.toNat : Int)], .agg #[.int .u8 (x.In.toNat : Int), .int .u8 (x.Out.toNat : Int)]] w fun e w' => e = .returned (.bool true) ∧ Below w.heap.size w w' := by
  generalize x.In = y0 at *
  generalize x.Out = y1 at *
  go_enter Try.func53, Try.ntmps53
  go_wp2
  go_ret
  exact ⟨rfl, ((Below.refl _ _).alloc (Nat.le_refl _) _).alloc (by simp) _⟩
end Go.Proofs.Ytfcmhbbeohhjmaa
