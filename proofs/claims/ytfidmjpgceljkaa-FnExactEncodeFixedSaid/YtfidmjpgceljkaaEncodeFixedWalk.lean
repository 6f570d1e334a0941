/- The walk of FnExactEncodeFixed: it returns true at every number and width, and writes nothing that was there. -/
import Derived.Test.YtfidmjpgceljkaaX1
import Derived.Test.YtfidmjpgceljkaaX2
import Derived.OpenShut
namespace Go.Proofs.Ytfidmjpgceljkaa.fnExactEncodeFixed
open Go.ChangeShapes Go.RowKit M

/-- The two answer alike; of what there was before the call nothing turns. -/
theorem spec_bad (a0 a1 : Int) (w : World) (h : a1 < 1 ∨ 7 < a1 ∨ a0 < 0) :
    Calls Try.prog 9 #[.int .i64 a0, .int .i64 a1] w fun e w' => e = .returned (.string ⟨#[]⟩) ∧ w' = w := by
  by_cases h1 : 1 ≤ a1
  · by_cases h2 : a1 ≤ 7
    · have h3 : a0 < 0 := by omega
      clear h
      go_enter Try.func9, Try.ntmps9
      go_wp2
      go_ret
      exact ⟨rfl, rfl⟩
    · clear h
      go_enter Try.func9, Try.ntmps9
      go_wp2
      go_ret
      exact ⟨rfl, rfl⟩
  · clear h
    go_enter Try.func9, Try.ntmps9
    go_wp2
    go_ret
    exact ⟨rfl, rfl⟩
theorem impl_bad (a0 a1 : Int) (w : World) (h : a1 < 1 ∨ 7 < a1 ∨ a0 < 0) :
    Calls Try.prog 10 #[.int .i64 a0, .int .i64 a1] w fun e w' => e = .returned (.string ⟨#[]⟩) ∧ w' = w := by
  by_cases h1 : 1 ≤ a1
  · by_cases h2 : a1 ≤ 7
    · have h3 : a0 < 0 := by omega
      clear h
      go_enter Try.func10, Try.ntmps10
      go_wp2
      go_ret
      exact ⟨rfl, rfl⟩
    · clear h
      go_enter Try.func10, Try.ntmps10
      go_wp2
      go_ret
      exact ⟨rfl, rfl⟩
  · clear h
    go_enter Try.func10, Try.ntmps10
    go_wp2
    go_ret
    exact ⟨rfl, rfl⟩
theorem walk (a0 : Int) (a1 : Int) (w0 : (Lit.int .i64 a0).wf = true) (w : World) :
    Calls Try.prog 3 #[.int .i64 a0, .int .i64 a1] w fun e w' => e = .returned (.bool true) ∧ Below w.heap.size w w' := by
  have hb : a0 ≤ 9223372036854775807 := by
    have := bounds_i64 w0
    omega
  by_cases h : a1 < 1 ∨ 7 < a1 ∨ a0 < 0
  · go_enter Try.func3, Try.ntmps3
    go_wp2_with (first | (go_at_call 9; refine (spec_bad _ _ _ h).mono ?_; rintro e w' ⟨rfl, rfl⟩) | (go_at_call 10; refine (impl_bad _ _ _ h).mono ?_; rintro e w' ⟨rfl, rfl⟩))
    go_ret
    exact ⟨rfl, Below.refl _ _⟩
  · obtain ⟨k, rfl⟩ : ∃ k : Nat, a1 = k := ⟨a1.toNat, by omega⟩
    have h0 : 0 ≤ a0 := by omega
    have h1 : 1 ≤ k := by omega
    have h2 : k ≤ 7 := by omega
    clear h w0
    go_enter Try.func3, Try.ntmps3
    go_wp2_with (first | (go_at_call 9; refine (specEnc_any _ _ _ h0 hb h1 h2).mono ?_; rintro e w1 ⟨rfl, hb1⟩) | (go_at_call 10; refine (implEnc_any _ _ _ h0 hb h1 h2).mono ?_; rintro e w2 ⟨rfl, hb2⟩))
    go_ret
    exact ⟨rfl, hb1.trans (hb2.mono hb1.size)⟩

end Go.Proofs.Ytfidmjpgceljkaa.fnExactEncodeFixed
