/- The laws' szLinkS. -/
import Derived.Test.YtfcmhbbeohhjmaaTrLink
import Derived.WalkKit
import Derived.BigQuiet
import Derived.Lib.QuietBelow
import Derived.Test.YtfcmhbbeohhjmaaRows
import Derived.Test.YtfcmhbbeohhjmaaRet
namespace Go.Proofs.Ytfcmhbbeohhjmaa
set_option maxRecDepth 100000
open Go.RowKit Go.Sort
set_option linter.unusedVariables false
set_option linter.unusedSimpArgs false

theorem szLinkS_any (v : Value) (l : List DLink) (left : Int) (F : Addr → Prop) (w : World) (h0 : 0 ≤ left) (h1 : left ≤ 1048576) (hv : RowRd rLink false w v l F) :
    Calls Try.prog 26 #[v, .int .i64 left] w fun e w' => (∃ z : Int, e = .returned (.int .i64 z) ∧ (z < 0 ∨ z + (szRow rLink l : Nat) = left ∧ 0 ≤ z)) ∧ Below w.heap.size w w' := by
  have HS : Hid (szRow rLink l = l.length) := szRow_flat _ (fun _ => rfl) l
  have hmx := hv.max
  obtain ⟨A, cap, rfl⟩ := hv.form
  clear hv
  generalize l.length = n at *
  go_enter Try.func26, Try.ntmps26
  by_cases h : left - (n : Int) < 0
  · go_wp2
    go_ret
    exact ⟨⟨-1, rfl, Or.inl (by omega)⟩, Below.refl _ _⟩
  · go_wp2
    go_ret
    exact ⟨⟨_, rfl, Or.inr ⟨by rw [HS.out]; omega, by omega⟩⟩, Below.refl _ _⟩
end Go.Proofs.Ytfcmhbbeohhjmaa
