/- The walk of FnExactDecodeFixed: it returns true at every text and width, and writes nothing that was there. -/
import Derived.Test.YtfidmjpgceljkaaX3
namespace Go.Proofs.Ytfidmjpgceljkaa.fnExactDecodeFixed
open Go.RowKit M

theorem spec_bad (s : ByteArray) (a1 : Int) (w : World) (h : a1 < 1 ∨ 7 < a1 ∨ (s.size : Int) < a1) :
    Calls Try.prog 11 #[.string s, .int .i64 a1] w fun e w' => e = .returned (.tuple #[.int .i64 0, .bool false]) ∧ w = w' := by
  by_cases h1 : 1 ≤ a1
  · by_cases h2 : a1 ≤ 7
    · have h3 : (s.size : Int) < a1 := by omega
      clear h
      go_enter Try.func11, Try.ntmps11
      go_wp2
      go_ret2
      exact ⟨rfl, rfl⟩
    · clear h
      go_enter Try.func11, Try.ntmps11
      go_wp2
      go_ret2
      exact ⟨rfl, rfl⟩
  · clear h
    go_enter Try.func11, Try.ntmps11
    go_wp2
    go_ret2
    exact ⟨rfl, rfl⟩
theorem impl_bad (s : ByteArray) (a1 : Int) (w : World) (h : a1 < 1 ∨ 7 < a1 ∨ (s.size : Int) < a1) :
    Calls Try.prog 12 #[.string s, .int .i64 a1] w fun e w' => e = .returned (.tuple #[.int .i64 0, .bool false]) ∧ w = w' := by
  by_cases h1 : 1 ≤ a1
  · by_cases h2 : a1 ≤ 7
    · have h3 : (s.size : Int) < a1 := by omega
      clear h
      go_enter Try.func12, Try.ntmps12
      go_wp2
      go_ret2
      exact ⟨rfl, rfl⟩
    · clear h
      go_enter Try.func12, Try.ntmps12
      go_wp2
      go_ret2
      exact ⟨rfl, rfl⟩
  · clear h
    go_enter Try.func12, Try.ntmps12
    go_wp2
    go_ret2
    exact ⟨rfl, rfl⟩
theorem walk (s : ByteArray) (a1 : Int) (w0 : s.size ≤ maxLen) (w : World) :
    Calls Try.prog 4 #[.string s, .int .i64 a1] w fun e w' => e = .returned (.bool true) ∧ Below w.heap.size w w' := by
  by_cases hbig : 1048576 < s.size
  · go_enter Try.func4, Try.ntmps4
    go_wp2
    go_ret
    exact ⟨rfl, Below.refl _ _⟩
  · by_cases h : a1 < 1 ∨ 7 < a1 ∨ (s.size : Int) < a1
    · go_enter Try.func4, Try.ntmps4
      go_wp2_with (first | (go_at_call 11; refine (spec_bad _ _ _ h).mono ?_; rintro e w' ⟨rfl, rfl⟩) | (go_at_call 12; refine (impl_bad _ _ _ h).mono ?_; rintro e w' ⟨rfl, rfl⟩))
      go_ret
      exact ⟨rfl, Below.refl _ _⟩
    · obtain ⟨k, rfl⟩ : ∃ k : Nat, a1 = k := ⟨a1.toNat, by omega⟩
      have h1 : 1 ≤ k := by omega
      have h2 : k ≤ 7 := by omega
      have h3 : k ≤ s.size := by omega
      clear h
      go_enter Try.func4, Try.ntmps4
      go_wp2_with (first | (go_at_call 11; refine (specDec_any _ _ _ w0 h1 h2 h3).mono ?_; rintro e w1 ⟨rfl, rfl⟩) | (go_at_call 12; refine (implDec_any _ _ _ w0 h1 h2 h3).mono ?_; rintro e w2 ⟨rfl, rfl⟩))
      go_ret
      exact ⟨rfl, Below.refl _ _⟩
end Go.Proofs.Ytfidmjpgceljkaa.fnExactDecodeFixed
