/- The model's ReverseForm: what it answers. -/
import Derived.Test.YtjajbkbocbodfaaDoorFm
namespace Go.Proofs.YtjajbkbocbodfaaDoor
open Go.RowKit M

theorem specRev_any (s : ByteArray) (w : World) (hs : s.size ≤ maxLen) :
    Calls Tryd.prog 19 #[.string s] w fun e w' => e = .returned (.string ⟨(s.data.toList.reverse).toArray⟩) ∧ w = w' := by
  unfold maxLen at hs
  have HE := Lib.hid (revL_all s)
  go_enter Tryd.func19, Tryd.ntmps19
  go_wp2
  go_loop [3, 4] (fun v i => ∃ (j : Nat), j ≤ s.size ∧ i = .int .i64 j ∧ v = .string ⟨(revL s j).toArray⟩) (fun _ i => s.size - (intOf i).toNat)
  case atStart => exact ⟨0, by omega, rfl, by simp [revL]⟩
  case round =>
    obtain ⟨j, hj, rfl, rfl⟩ := hrel
    by_cases hlt : j < s.size
    · have hl := revL_len s j hj
      have hst := revL_step s j hlt
      have HS := Lib.hid hst
      have HX := Lib.hid (extract_one s j hlt)
      have g1 : (0 : Int) ≤ (j : Int) := by omega
      have g2 : (j : Int) + 1 ≤ (s.size : Int) := by omega
      have g3 : (j : Int) ≤ (j : Int) + 1 := by omega
      have hwk : IntKind.i64.wrap ((j : Int) + 1) = (j : Int) + 1 := IntWalk.i64_in _ (by omega)
      have hnk : ((j : Int) + 1).toNat = j + 1 := by omega
      have hadd : ∀ w : World, (Op.stringOp .add (s.extract j (j + 1)) ⟨(revL s j).toArray⟩).run Tryd.prog w = .ok (.string ⟨(revL s (j + 1)).toArray⟩) w := by
        intro w
        rw [extract_one s j hlt, run_string_add_sum _ _ _ (by show 1 + (revL s j).toArray.size ≤ _; rw [List.size_toArray, hl]; omega), cat_first, hst]
      clear hst
      go_wp2
      go_round
      case rel => exact ⟨j + 1, by omega, by go_num, rfl⟩
      case measure => simp [intOf]; omega
    · obtain rfl : j = s.size := by omega
      go_wp2
      go_ret
      exact ⟨ret_str (by rw [HE.out]), rfl⟩
end Go.Proofs.YtjajbkbocbodfaaDoor
