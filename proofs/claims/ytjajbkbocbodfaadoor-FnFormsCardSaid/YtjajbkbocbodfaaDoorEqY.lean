/- '==' of two equal syllables. -/
import Derived.Test.YtjajbkbocbodfaaDoorY0
import Derived.WalkKit
import Derived.Laws.StructEq
namespace Go.Proofs.YtjajbkbocbodfaaDoor
open Go.RowKit

theorem eqGuardY : Tryd.prog.eqGuardType Tryd.prog.depth 38 = false := by kernel_rfl
theorem equalY (O N C : ByteArray) (w : World) : (Op.equalIn 10000 38 (.agg #[.string O, .string N, .string C]) (.agg #[.string O, .string N, .string C])).run Tryd.prog w = .ok true w := by
  rw [run_equalIn_struct w 9999 38 _ _ (by kernel_rfl) (by kernel_rfl)]
  unfold Program.fieldsOf
  rw [Tryd.underlying38]
  have he : ∀ (d : Nat) (a : ByteArray) (w : World), (Op.equalIn (d + 1) 9 (.string a) (.string a)).run Tryd.prog w = .ok true w := fun d a w => by
    rw [run_equalIn_string w d 9 a a Tryd.underlying9]; simp
  simp [Op.eqFields, part, Sem.run_bind, Tryd.isAgg9, he 9998]
end Go.Proofs.YtjajbkbocbodfaaDoor
