/- The laws' eqCandidate. -/
import Derived.Test.YtfcmhbbeohhjmaaTrCandidate
import Derived.Test.YtfcmhbbeohhjmaaTeLinkS
import Derived.WalkKit
import Derived.BigQuiet
import Derived.Lib.QuietBelow
import Derived.Test.YtfcmhbbeohhjmaaRows
import Derived.Test.YtfcmhbbeohhjmaaRet
namespace Go.Proofs.Ytfcmhbbeohhjmaa
set_option maxRecDepth 100000
open Go.RowKit Go.Sort
set_option linter.unusedVariables false
set_option linter.unusedSimpArgs false

theorem eqCandidate_any (x : DCandidate) (F G : Addr → Prop) (w : World) (v0 u0 : Value) (hv0 : RowRd rLink false w v0 x.Links F) (hu0 : RowRd rLink false w u0 x.Links G) :
    Calls Try.prog 13 #[.agg #[v0], .agg #[u0]] w fun e w' => e = .returned (.bool true) ∧ Below w.heap.size w w' := by
  have HR0 : Hid (∀ W, Below w.heap.size w W → Calls Try.prog 32 #[v0, u0] W fun e w' => e = .returned (.bool true) ∧ Below W.heap.size W w') := fun W hW => eqLinkS_any v0 u0 _ F G W (hv0.kept hW) (hu0.kept hW)
  clear hv0 hu0
  go_enter Try.func13, Try.ntmps13
  go_wp2_with fail
  refine (HR0.out _ (((Below.refl _ _).alloc (Nat.le_refl _) _).alloc (by simp) _)).mono ?_
  rintro e w1 ⟨rfl, hb1⟩
  have HB1 : Hid (Below w.heap.size w w1) := (((Below.refl _ _).alloc (Nat.le_refl _) _).alloc (by simp) _).trans (hb1.mono (by simp; try omega))
  have hA1 : w1.heap[w.heap.size]? = some (.cells #[v0] 29 (0, 0)) := (hb1.block _ (by simp; try omega)).trans (box1 _ _ _)
  have hB1 : w1.heap[w.heap.size + 1]? = some (.cells #[u0] 29 (0, 0)) := (hb1.block _ (by simp; try omega)).trans (box2 _ _ _)
  clear hb1
  go_wp2
  go_ret
  exact ⟨rfl, HB1.out⟩
end Go.Proofs.Ytfcmhbbeohhjmaa
