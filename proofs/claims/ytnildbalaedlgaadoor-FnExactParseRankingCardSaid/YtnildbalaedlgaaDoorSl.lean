/- A slice of one sound; sums of short texts. -/
import Derived.Test.YtnildbalaedlgaaDoorSnd
import Derived.Test.YtnildbalaedlgaaDoorMath
import Derived.Laws.IdiomStrings
import Derived.Lib.Slices
namespace Go.Proofs.YtnildbalaedlgaaDoor
set_option maxRecDepth 100000
open Go.RowKit M

/-- A slice of one sound. -/
theorem snd_slice (j : Nat) (h : j < 7) (w : World) : (Instr.slice 9 (.string ⟨#[112, 116, 98, 100, 110, 97, 105]⟩) (some (.int .i64 j)) (some (.int .i64 ((j : Int) + 1))) none).run Tryd.prog w = .ok (.string ⟨#[byt (sndAt j)]⟩) w := by
  rcases (show j = 0 ∨ j = 1 ∨ j = 2 ∨ j = 3 ∨ j = 4 ∨ j = 5 ∨ j = 6 by omega) with rfl | rfl | rfl | rfl | rfl | rfl | rfl <;> kernel_rfl
theorem snd_extract (j : Nat) (h : j < 7) : (⟨#[112, 116, 98, 100, 110, 97, 105]⟩ : ByteArray).extract j (j + 1) = ⟨#[byt (sndAt j)]⟩ := by
  rcases (show j = 0 ∨ j = 1 ∨ j = 2 ∨ j = 3 ∨ j = 4 ∨ j = 5 ∨ j = 6 by omega) with rfl | rfl | rfl | rfl | rfl | rfl | rfl <;> rfl
theorem cat_last (l : List UInt8) (a : UInt8) : (⟨l.toArray⟩ : ByteArray) ++ ⟨#[a]⟩ = ⟨(l ++ [a]).toArray⟩ := by
  apply ByteArray.ext
  simp
theorem str_add (t u : ByteArray) (h : t.size + u.size ≤ 100) (w : World) : (Op.stringOp .add t u).run Tryd.prog w = .ok (.string (t ++ u)) w := by
  rw [run_string_add_sum _ _ _ (by omega)]
end Go.Proofs.YtnildbalaedlgaaDoor
