/- The model's IsVowelAt, CountVowels, SkeletonOf: what they answer. -/
import Derived.Test.YtjajbkbocbodfaaDoorSh
import Derived.Test.YtjajbkbocbodfaaDoorN1
namespace Go.Proofs.YtjajbkbocbodfaaDoor
open Go.RowKit M

theorem specVow_any (s : ByteArray) (i : Int) (w : World) :
    Calls Tryd.prog 38 #[.string s, .int .i64 i] w fun e w' => e = .returned (.bool (vowAt s i)) ∧ w = w' := by
  by_cases h : 0 ≤ i ∧ i < (s.size : Int)
  · obtain ⟨k, rfl⟩ := Int.eq_ofNat_of_zero_le h.1
    have hk : k < s.size := by omega
    have HE := Lib.hid (vowAt_in s k hk)
    have HB := Lib.hid (bAt_in s k hk)
    have hk2 : (k : Int) < (s.size : Int) := h.2
    have hk0 : (0 : Int) ≤ (k : Int) := h.1
    clear h
    go_enter Tryd.func38, Tryd.ntmps38
    go_wp2_with fail
    refine (specHas_any _ _ _).mono ?_
    rintro e w2 ⟨rfl, rfl⟩
    go_wp2
    go_ret
    exact ⟨ret_bool (by rw [HE.out, ← HB.out]), rfl⟩
  · have HE : Hid (vowAt s i = false) := by
      unfold Hid vowAt
      by_cases h0 : 0 ≤ i
      · have h2 : ¬ i < (s.size : Int) := fun h1 => h ⟨h0, h1⟩
        simp [h2]
      · simp [h0]
    by_cases h0 : 0 ≤ i
    · have h2 : ¬ i < (s.size : Int) := fun h1 => h ⟨h0, h1⟩
      clear h
      go_enter Tryd.func38, Tryd.ntmps38
      go_wp2
      go_ret
      exact ⟨ret_bool HE.out.symm, rfl⟩
    · clear h
      go_enter Tryd.func38, Tryd.ntmps38
      go_wp2
      go_ret
      exact ⟨ret_bool HE.out.symm, rfl⟩
theorem specCnt_any (s : ByteArray) (w : World) (hs : s.size ≤ maxLen) :
    Calls Tryd.prog 15 #[.string s] w fun e w' => e = .returned (.int .i64 (cntV s s.size)) ∧ w = w' := by
  unfold maxLen at hs
  go_enter Tryd.func15, Tryd.ntmps15
  go_wp2
  go_loop [3, 4] (fun n i => ∃ (j : Nat), j ≤ s.size ∧ i = .int .i64 j ∧ n = .int .i64 (cntV s j)) (fun _ i => s.size - (intOf i).toNat)
  case atStart => exact ⟨0, by omega, rfl, by simp [cntV]⟩
  case round =>
    obtain ⟨j, hj, rfl, rfl⟩ := hrel
    have hcl := cntV_le s j
    by_cases hlt : j < s.size
    · have HV := Lib.hid (vowAt_in s j hlt)
      go_wp2_with fail
      refine (specVow_any s _ _).mono ?_
      rintro e w2 ⟨rfl, rfl⟩
      go_wp2
      · have hx : hasF (bAt s j) 0 = true := by rw [← HV.out]; assumption
        go_round
        case rel => exact ⟨j + 1, by omega, by go_num, by rw [cntV_yes s j hx]; go_num⟩
        case measure => simp [intOf]; omega
      · have hx : hasF (bAt s j) 0 = false := by rw [← HV.out]; assumption
        go_round
        case rel => exact ⟨j + 1, by omega, by go_num, by rw [cntV_no s j hx]⟩
        case measure => simp [intOf]; omega
    · obtain rfl : j = s.size := by omega
      go_wp2
      go_ret
      exact ⟨rfl, rfl⟩
def skV (s : ByteArray) : List UInt8 := if isFm s then skelL s s.size else []
theorem specSk_any (s : ByteArray) (w : World) (hs : s.size ≤ maxLen) :
    Calls Tryd.prog 13 #[.string s] w fun e w' => e = .returned (.string ⟨(skV s).toArray⟩) ∧ w = w' := by
  have HM := Lib.hid hs
  clear hs
  by_cases hf : isFm s = true
  · have HE : Hid (skV s = skelL s s.size) := if_pos hf
    have h8 := isFm_size hf
    go_enter Tryd.func13, Tryd.ntmps13
    go_wp2_with fail
    refine (specFm_any s _ HM.out).mono ?_
    rintro e w2 ⟨rfl, rfl⟩
    go_wp2
    go_loop [3, 4] (fun v i => ∃ (j : Nat), j ≤ s.size ∧ i = .int .i64 j ∧ v = .string ⟨(skelL s j).toArray⟩) (fun _ i => s.size - (intOf i).toNat)
    case atStart => exact ⟨0, by omega, rfl, rfl⟩
    case round =>
      obtain ⟨j, hj, rfl, rfl⟩ := hrel
      by_cases hlt : j < s.size
      · have HV := Lib.hid (vowAt_in s j hlt)
        have hl := skelL_len s j
        have ha1 : ∀ w : World, (Op.stringOp .add ⟨(skelL s j).toArray⟩ ⟨#[86]⟩).run Tryd.prog w = .ok (.string ⟨(skelL s j ++ [86]).toArray⟩) w := by
          intro w; rw [run_string_add_sum _ _ _ (by simp [ByteArray.size, hl]; omega), cat_last]
        have ha2 : ∀ w : World, (Op.stringOp .add ⟨(skelL s j).toArray⟩ ⟨#[67]⟩).run Tryd.prog w = .ok (.string ⟨(skelL s j ++ [67]).toArray⟩) w := by
          intro w; rw [run_string_add_sum _ _ _ (by simp [ByteArray.size, hl]; omega), cat_last]
        clear hl
        go_wp2_with fail
        refine (specVow_any s _ _).mono ?_
        rintro e w2 ⟨rfl, rfl⟩
        go_wp2
        · have hx : hasF (bAt s j) 0 = true := by rw [← HV.out]; assumption
          go_round
          case rel => exact ⟨j + 1, by omega, by go_num, by rw [skelL_yes s j hx]⟩
          case measure => simp [intOf]; omega
        · have hx : hasF (bAt s j) 0 = false := by rw [← HV.out]; assumption
          go_round
          case rel => exact ⟨j + 1, by omega, by go_num, by rw [skelL_no s j hx]⟩
          case measure => simp [intOf]; omega
      · obtain rfl : j = s.size := by omega
        go_wp2
        go_ret
        exact ⟨ret_str (by rw [HE.out]), rfl⟩
  · have hf : isFm s = false := by simpa using hf
    have HE : Hid (skV s = []) := by unfold Hid skV; rw [if_neg (by simp [hf])]
    go_enter Tryd.func13, Tryd.ntmps13
    go_wp2_with fail
    refine (specFm_any s _ HM.out).mono ?_
    rintro e w2 ⟨rfl, rfl⟩
    go_wp2
    go_ret
    exact ⟨ret_str (by rw [HE.out]), rfl⟩
end Go.Proofs.YtjajbkbocbodfaaDoor
