/- The model's IsVowelAt: what they answer. -/
import Derived.Test.YtlcjpbjnjnolfaaDoorSh
import Derived.Test.YtlcjpbjnjnolfaaDoorN1
namespace Go.Proofs.YtlcjpbjnjnolfaaDoor
set_option maxRecDepth 100000
open Go.RowKit M

theorem specVow_any (s : ByteArray) (i : Int) (w : World) :
    Calls Tryd.prog 25 #[.string s, .int .i64 i] w fun e w' => e = .returned (.bool (vowAt s i)) ∧ w = w' := by
  by_cases h : 0 ≤ i ∧ i < (s.size : Int)
  · obtain ⟨k, rfl⟩ := Int.eq_ofNat_of_zero_le h.1
    have hk : k < s.size := by omega
    have HE := Lib.hid (vowAt_in s k hk)
    have HB := Lib.hid (bAt_in s k hk)
    have hk2 : (k : Int) < (s.size : Int) := h.2
    have hk0 : (0 : Int) ≤ (k : Int) := h.1
    clear h
    go_enter Tryd.func25, Tryd.ntmps25
    go_wp2_with fail
    refine (specHas_any _ _ _).mono ?_
    rintro e w2 ⟨rfl, rfl⟩
    go_wp2
    go_ret
    exact ⟨ret_bool (by rw [HE.out, ← HB.out]), rfl⟩
  · have HE : Hid (vowAt s i = false) := by
      unfold Hid vowAt
      by_cases h0 : 0 ≤ i
      · have h2 : ¬ i < (s.size : Int) := fun h1 => h ⟨h0, h1⟩
        simp [h2]
      · simp [h0]
    by_cases h0 : 0 ≤ i
    · have h2 : ¬ i < (s.size : Int) := fun h1 => h ⟨h0, h1⟩
      clear h
      go_enter Tryd.func25, Tryd.ntmps25
      go_wp2
      go_ret
      exact ⟨ret_bool HE.out.symm, rfl⟩
    · clear h
      go_enter Tryd.func25, Tryd.ntmps25
      go_wp2
      go_ret
      exact ⟨ret_bool HE.out.symm, rfl⟩
end Go.Proofs.YtlcjpbjnjnolfaaDoor
