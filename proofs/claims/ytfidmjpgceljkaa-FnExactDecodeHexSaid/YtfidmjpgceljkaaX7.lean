/- EncodeHex, the model's and the program's: one answer. -/
import Derived.Test.YtfidmjpgceljkaaApp
import Derived.Test.YtfidmjpgceljkaaHex
import Derived.Deep.RegionLaw
namespace Go.Proofs.Ytfidmjpgceljkaa
open Go.RowKit M

theorem ret_u8 {a b : Int} (h : a = b) : Ending.returned (.int .u8 a) = .returned (.int .u8 b) := by rw [h]
theorem digit_any (n : Int) (w : World) (h0 : 0 ≤ n) (h1 : n < 16) : Calls Try.prog 23 #[.int .i64 n] w fun e w' => e = .returned (.int .u8 (hexd n)) ∧ w' = w := by
  rcases (show n = 0 ∨ n = 1 ∨ n = 2 ∨ n = 3 ∨ n = 4 ∨ n = 5 ∨ n = 6 ∨ n = 7 ∨ n = 8 ∨ n = 9 ∨ n = 10 ∨ n = 11 ∨ n = 12 ∨ n = 13 ∨ n = 14 ∨ n = 15 from by omega) with rfl | rfl | rfl | rfl | rfl | rfl | rfl | rfl | rfl | rfl | rfl | rfl | rfl | rfl | rfl | rfl
  all_goals
    go_enter Try.func23, Try.ntmps23
    go_wp2
    go_ret
    exact ⟨rfl, rfl⟩

set_option maxHeartbeats 1000000 in
theorem specHex_any (s : ByteArray) (w : World) (hs : s.size ≤ 1048576) :
    Calls Try.prog 17 #[.string s] w fun e w' => e = .returned (.string ⟨(hexL s.data.toList).toArray⟩) ∧ Below w.heap.size w w' := by
  go_enter Try.func17, Try.ntmps17
  go_wp2
  go_loopw [3, 4] (fun v iv wr => ∃ (k : Nat), k ≤ s.size ∧ iv = .int .i64 k ∧ wr.ownsRow w.heap.size 5 1 v (2 * k) (cellsB (hexL (s.data.toList.take k))) ∧ Below w.heap.size w wr) (fun _ iv _ => s.size - (intOf iv).toNat)
  case atStart => exact ⟨0, by omega, rfl, World.ownsRow_lit w #[] 0 (Nat.le_refl _) (by unfold maxLen; omega) rfl, (Below.refl _ _).alloc (Nat.le_refl _) _⟩
  case round =>
    obtain ⟨k, hk, rfl, hown, hb⟩ := hrel
    by_cases hlt : k < s.size
    · have hb8 : (s[k].toNat : Int) < 256 := by have := UInt8.toNat_lt s[k]; omega
      have hb0 : 0 ≤ (s[k].toNat : Int) := by omega
      have hki : (k : Int) < (s.size : Int) := by omega
      go_wp2
      have q0 : 0 ≤ (s[k].toNat : Int) / 16 := by omega
      have q1 : (s[k].toNat : Int) / 16 < 16 := by omega
      have m0 : 0 ≤ (s[k].toNat : Int) % 16 := by omega
      have m1 : (s[k].toNat : Int) % 16 < 16 := by omega
      have dq := hexd_bd _ q0 q1
      have dm := hexd_bd _ m0 m1
      have hsz := hb.size
      have h2k : 2 * k ≤ 70368744177664 := by omega
      have hw1 : IntKind.i64.wrap (s[k].toNat : Int) = (s[k].toNat : Int) := IntWalk.i64_in _ (by omega)
      have hw2 : ((s[k].toNat : Int)).tdiv 16 = (s[k].toNat : Int) / 16 := Int.tdiv_eq_ediv_of_nonneg hb0
      have hw3 : ((s[k].toNat : Int)).tmod 16 = (s[k].toNat : Int) % 16 := Int.tmod_eq_emod_of_nonneg hb0
      have hw4 : IntKind.i64.wrap ((s[k].toNat : Int) / 16) = (s[k].toNat : Int) / 16 := IntWalk.i64_in _ (by omega)
      have hw5 : IntKind.i64.wrap ((s[k].toNat : Int) % 16) = (s[k].toNat : Int) % 16 := IntWalk.i64_in _ (by omega)
      go_region_law (first | (go_simp; go_at_call 23; refine (digit_any _ _ ?_ ?_).mono ?_; (first | exact q0 | exact m0); (first | exact q1 | exact m1); rintro e w' ⟨rfl, rfl⟩) | (refine step_append_two_drew wr rfl (.tmp 12) (.tmp 25) rfl w.heap.size _ (2 * k) _ hown (hexd ((s[k].toNat : Int) / 16)) (hexd ((s[k].toNat : Int) % 16)) dq dm h2k hsz (by simp [Act.eval]) (by simp [Act.eval]) ?_; intro v' w' hown' hb'))
      all_goals
        clear hw1 hw2 hw3 hw4 hw5
        go_wp2
        go_roundw
        case rel =>
          refine ⟨k + 1, by omega, by go_num, ?_, hb.trans hb'⟩
          rw [take_snoc s k hlt, hexL_snoc]
          exact hown'
        case measure => simp [intOf]; omega
    · obtain rfl : k = s.size := by omega
      have hcv := conv_own hown
      have ht : s.data.toList.take s.size = s.data.toList := List.take_of_length_le (by simp)
      rw [ht] at hcv
      clear ht
      go_wp2
      go_ret
      exact ⟨rfl, hb⟩
end Go.Proofs.Ytfidmjpgceljkaa
