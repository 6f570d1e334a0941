/- The walk of FnExactFormatInt: it returns true at every number, and writes nothing that was there. -/
import Derived.Test.YtfidmjpgceljkaaDoorF2
import Derived.OpenShut
namespace Go.Proofs.YtfidmjpgceljkaaDoor.fnExactFormatInt
open Go.ChangeShapes Go.RowKit M
theorem walk (n : Int) (w0 : (Lit.int .i64 n).wf = true) (w : World) (hL : laidMetH Tryd.prog Rows.fnExactFormatIntRow.laid w) :
    Calls Tryd.prog 4 #[.int .i64 n] w fun e w' => e = .returned (.bool true) ∧ Below w.heap.size w w' := by
  have hT : Tab w := tab_of hL
  have hbd := bounds_i64 w0
  have HB := Lib.hid hbd
  have HT := Lib.hid hT
  clear hL hT hbd w0
  go_enter Tryd.func4, Tryd.ntmps4
  go_wp2_with fail
  refine (specFmt_any n _ HB.out.1 HB.out.2).mono ?_
  rintro e w1 ⟨rfl, hb1⟩
  have HT1 := Lib.hid (tab_below HT.out hb1)
  go_wp2_with fail
  refine (implFmt_any n _ HB.out.1 HB.out.2 HT1.out).mono ?_
  rintro e w2 ⟨rfl, hb2⟩
  go_wp2
  go_ret
  exact ⟨rfl, hb1.trans (hb2.mono hb1.size)⟩
end Go.Proofs.YtfidmjpgceljkaaDoor.fnExactFormatInt
