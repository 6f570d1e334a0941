/- The program's isConstraintCount: what it answers. -/
import Derived.Test.YtnildbalaedlgaaDoorRet
import Derived.Test.YtnildbalaedlgaaDoorRows
import Derived.WalkKit
import Derived.BigQuiet
import Derived.Lib.QuietBelow
namespace Go.Proofs.YtnildbalaedlgaaDoor
set_option maxRecDepth 100000
open Go.RowKit Go.Sort
set_option linter.unusedVariables false
set_option linter.unusedSimpArgs false

theorem cnt12_any (n : Int) (w : World) :
    Calls Tryd.prog 29 #[.int .i64 n] w fun e w' => e = .returned (.bool (decide (1 ≤ n) && decide (n ≤ 5))) ∧ w = w' := by
  go_enter Tryd.func29, Tryd.ntmps29
  go_wp2
  all_goals
    go_ret
    refine ⟨ret_bool ?_, rfl⟩
    simp_all <;> omega
theorem cnt12_no {n : Int} (h : ¬ (1 ≤ n ∧ n ≤ 5)) : (decide (1 ≤ n) && decide (n ≤ 5)) = false := by
  cases hb : (decide (1 ≤ n) && decide (n ≤ 5)) with
  | false => rfl
  | true => simp at hb; exact (h hb).elim
theorem cnt12_yes {n : Int} (h1 : 1 ≤ n) (h2 : n ≤ 5) : (decide (1 ≤ n) && decide (n ≤ 5)) = true := by simp [h1, h2]
end Go.Proofs.YtnildbalaedlgaaDoor
