/- EncodeFixed and DecodeFixed at arguments that they refuse. -/
import Derived.Test.YtfidmjpgceljkaaDoorE1
import Derived.Test.YtfidmjpgceljkaaDoorX1
namespace Go.Proofs.YtfidmjpgceljkaaDoor
open Go.RowKit M

/-- The two answer alike; of what there was before the call nothing turns. -/
theorem specEnc_bad (a0 a1 : Int) (w : World) (h : a1 < 1 ∨ 7 < a1 ∨ a0 < 0) :
    Calls Tryd.prog 14 #[.int .i64 a0, .int .i64 a1] w fun e w' => e = .returned (.string ⟨#[]⟩) ∧ w' = w := by
  by_cases h1 : 1 ≤ a1
  · by_cases h2 : a1 ≤ 7
    · have h3 : a0 < 0 := by omega
      clear h
      go_enter Tryd.func14, Tryd.ntmps14
      go_wp2
      go_ret
      exact ⟨rfl, rfl⟩
    · clear h
      go_enter Tryd.func14, Tryd.ntmps14
      go_wp2
      go_ret
      exact ⟨rfl, rfl⟩
  · clear h
    go_enter Tryd.func14, Tryd.ntmps14
    go_wp2
    go_ret
    exact ⟨rfl, rfl⟩
theorem implEnc_bad (a0 a1 : Int) (w : World) (h : a1 < 1 ∨ 7 < a1 ∨ a0 < 0) :
    Calls Tryd.prog 12 #[.int .i64 a0, .int .i64 a1] w fun e w' => e = .returned (.string ⟨#[]⟩) ∧ w' = w := by
  by_cases h1 : 1 ≤ a1
  · by_cases h2 : a1 ≤ 7
    · have h3 : a0 < 0 := by omega
      clear h
      go_enter Tryd.func12, Tryd.ntmps12
      go_wp2
      go_ret
      exact ⟨rfl, rfl⟩
    · clear h
      go_enter Tryd.func12, Tryd.ntmps12
      go_wp2
      go_ret
      exact ⟨rfl, rfl⟩
  · clear h
    go_enter Tryd.func12, Tryd.ntmps12
    go_wp2
    go_ret
    exact ⟨rfl, rfl⟩
theorem implDec_bad (s : ByteArray) (a1 : Int) (w : World) (h : a1 < 1 ∨ 7 < a1 ∨ (s.size : Int) < a1) :
    Calls Tryd.prog 13 #[.string s, .int .i64 a1] w fun e w' => e = .returned (.tuple #[.int .i64 0, .bool false]) ∧ w = w' := by
  by_cases h1 : 1 ≤ a1
  · by_cases h2 : a1 ≤ 7
    · have h3 : (s.size : Int) < a1 := by omega
      clear h
      go_enter Tryd.func13, Tryd.ntmps13
      go_wp2
      go_ret2
      exact ⟨rfl, rfl⟩
    · clear h
      go_enter Tryd.func13, Tryd.ntmps13
      go_wp2
      go_ret2
      exact ⟨rfl, rfl⟩
  · clear h
    go_enter Tryd.func13, Tryd.ntmps13
    go_wp2
    go_ret2
    exact ⟨rfl, rfl⟩
end Go.Proofs.YtfidmjpgceljkaaDoor
