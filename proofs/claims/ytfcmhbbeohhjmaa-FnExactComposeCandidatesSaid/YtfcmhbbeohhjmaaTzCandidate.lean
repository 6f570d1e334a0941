/- The laws' szCandidate. -/
import Derived.Test.YtfcmhbbeohhjmaaTrCandidate
import Derived.Test.YtfcmhbbeohhjmaaTzLinkS
import Derived.WalkKit
import Derived.BigQuiet
import Derived.Lib.QuietBelow
import Derived.Test.YtfcmhbbeohhjmaaRows
import Derived.Test.YtfcmhbbeohhjmaaRet
namespace Go.Proofs.Ytfcmhbbeohhjmaa
set_option maxRecDepth 100000
open Go.RowKit Go.Sort
set_option linter.unusedVariables false
set_option linter.unusedSimpArgs false

theorem szCandidate_any (x : DCandidate) (v0 : Value) (left : Int) (F : Addr → Prop) (w : World) (h0 : 0 ≤ left) (h1 : left ≤ 1048576) (hv : RowRd rLink false w v0 x.Links F) :
    Calls Try.prog 9 #[.agg #[v0], .int .i64 left] w fun e w' => (∃ z : Int, e = .returned (.int .i64 z) ∧ (z < 0 ∨ z + (rCandidate.sz x : Nat) = left ∧ 0 ≤ z)) ∧ Below w.heap.size w w' := by
  have HS : Hid (rCandidate.sz x = szRow rLink x.Links) := by unfold Hid; rw [rCandidate_sz]; try omega
  have HC : Hid (∀ W, Below w.heap.size w W → Calls Try.prog 26 #[v0, .int .i64 left] W fun e w' => (∃ z : Int, e = .returned (.int .i64 z) ∧ (z < 0 ∨ z + (szRow rLink x.Links : Nat) = left ∧ 0 ≤ z)) ∧ Below W.heap.size W w') := fun W hW => szLinkS_any v0 _ left F W h0 h1 (hv.kept hW)
  clear hv
  generalize rCandidate.sz x = n at *
  generalize szRow rLink x.Links = m at *
  go_enter Try.func9, Try.ntmps9
  go_wp2_with fail
  refine (HC.out _ ((Below.refl _ _).alloc (Nat.le_refl _) _)).mono ?_
  rintro e w1 ⟨⟨z, rfl, hz⟩, hb⟩
  have HB := Lib.hid (((Below.refl w.heap.size w).alloc (Nat.le_refl _) _).trans (hb.mono (by simp)))
  clear hb
  by_cases h : z < 0
  · go_wp2
    go_ret
    exact ⟨⟨-1, rfl, Or.inl (by omega)⟩, HB.out⟩
  · have HZ := Lib.hid (hz.resolve_left h)
    clear hz
    go_wp2
    go_ret
    exact ⟨⟨z, rfl, Or.inr (by rw [HS.out]; exact HZ.out)⟩, HB.out⟩
end Go.Proofs.Ytfcmhbbeohhjmaa
