/- '==' of two arrays of five numbers. -/
import Derived.Test.YtpcggbpfpicjiaaDoorS3
import Derived.Test.YtpcggbpfpicjiaaDoorCls
import Derived.DeepKeys
import Derived.Laws.StructEq
namespace Go.Proofs.YtpcggbpfpicjiaaDoor
open Go.RowKit

theorem info3 : (Tryd.prog.info? 3).map (fun i => i.size) = some 1 := by kernel_rfl
theorem cells3 : Tryd.prog.cellsOf 3 = 1 := by kernel_rfl
theorem run_equalIn_five (d : Nat) (A B : Nat → Int) (w : World) :
    (Op.equalIn (d + 2) 48 (.agg #[.int .i64 (A 0), .int .i64 (A 1), .int .i64 (A 2), .int .i64 (A 3), .int .i64 (A 4)]) (.agg #[.int .i64 (B 0), .int .i64 (B 1), .int .i64 (B 2), .int .i64 (B 3), .int .i64 (B 4)])).run Tryd.prog w = .ok (eq5 A B) w := by
  obtain ⟨i, hi, hs⟩ : ∃ i, Tryd.prog.info? 3 = some i ∧ i.size = 1 := by
    have := info3
    cases h : Tryd.prog.info? 3 with
    | none => simp [h] at this
    | some i => exact ⟨i, rfl, by simpa [h] using this⟩
  rw [run_equalIn_array w (d + 1) _ _ Tryd.underlying48 hi, cells3]
  have hp : ∀ (F : Nat → Int) (w : World) (k : Nat), k < 5 → (part 3 #[.int .i64 (F 0), .int .i64 (F 1), .int .i64 (F 2), .int .i64 (F 3), .int .i64 (F 4)] k).run Tryd.prog w = .ok (.int .i64 (F k)) w := by
    intro F w k hk
    unfold part
    rw [Sem.run_bind, Tryd.isAgg3]
    match k, hk with
    | 0, _ => rfl | 1, _ => rfl | 2, _ => rfl | 3, _ => rfl | 4, _ => rfl
  have he : ∀ (a b : Int) (w : World), (Op.equalIn (d + 1) 3 (.int .i64 a) (.int .i64 b)).run Tryd.prog w = .ok (a == b) w := fun a b w => run_equalIn_int w d 3 .i64 .i64 a b Tryd.underlying3
  show (Op.eqItems (d + 1) 3 1 _ _ [0, 1, 2, 3, 4]).run Tryd.prog w = _
  simp only [Op.eqItems, Sem.run_bind, Nat.mul_one, fun w => hp A w 0 (by omega), fun w => hp A w 1 (by omega), fun w => hp A w 2 (by omega), fun w => hp A w 3 (by omega), fun w => hp A w 4 (by omega), fun w => hp B w 0 (by omega), fun w => hp B w 1 (by omega), fun w => hp B w 2 (by omega), fun w => hp B w 3 (by omega), fun w => hp B w 4 (by omega), he, Result.andThen_ok, Sem.run_ite, Sem.run_pure]
  unfold eq5
  cases A 0 == B 0 <;> cases A 1 == B 1 <;> cases A 2 == B 2 <;> cases A 3 == B 3 <;> cases A 4 == B 4 <;> simp
theorem eqGuard5 : Tryd.prog.eqGuardType Tryd.prog.depth 48 = false := by kernel_rfl
end Go.Proofs.YtpcggbpfpicjiaaDoor
