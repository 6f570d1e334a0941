/- DecodeFixed, the model's and the program's: one answer. -/
import Derived.Test.YtfidmjpgceljkaaRow
import Derived.Test.YtfidmjpgceljkaaNum
namespace Go.Proofs.Ytfidmjpgceljkaa
open Go.RowKit M

theorem bits_or_i64 (a b : Nat) (ha : a < 9223372036854775808) (hb : b < 9223372036854775808) : bits .or .i64 (a : Int) (b : Int) = ((a ||| b : Nat) : Int) := by
  have hlt : a ||| b < 2 ^ 63 := Nat.or_lt_two_pow ha hb
  have h1 : (BitVec.ofInt 64 (a : Int) ||| BitVec.ofInt 64 (b : Int)).toNat = a ||| b := by
    rw [BitVec.toNat_or, BitVec.ofInt_natCast, BitVec.ofInt_natCast, BitVec.toNat_ofNat, BitVec.toNat_ofNat, Nat.mod_eq_of_lt (by omega), Nat.mod_eq_of_lt (by omega)]
  show IntKind.i64.wrap (((BitVec.ofInt 64 (a : Int) ||| BitVec.ofInt 64 (b : Int)).toNat : Nat) : Int) = _
  rw [h1]
  exact IntWalk.i64_in _ (by omega)
/-- 'a << k | b' where b has no bit from k on: the sum. -/
theorem bits_or_sum (k : Nat) (a b : Int) (ha : 0 ≤ a) (hb : 0 ≤ b) (hb2 : b < 2 ^ k) (h : a * 2 ^ k + b < 9223372036854775808) : bits .or .i64 (a * 2 ^ k) b = a * 2 ^ k + b := by
  obtain ⟨x, rfl⟩ : ∃ x : Nat, a = x := ⟨a.toNat, by omega⟩
  obtain ⟨y, rfl⟩ : ∃ y : Nat, b = y := ⟨b.toNat, by omega⟩
  have hp : ((2 : Int) ^ k) = ((2 ^ k : Nat) : Int) := by simp
  rw [hp] at h hb2 ⊢
  have e : (x : Int) * ((2 ^ k : Nat) : Int) = ((x * 2 ^ k : Nat) : Int) := by simp
  rw [e] at h ⊢
  have hy : y < 2 ^ k := by omega
  rw [bits_or_i64 _ _ (by omega) (by omega), Nat.mul_comm x, ← Nat.two_pow_add_eq_or_of_lt hy]
  simp
theorem ret_intb {a b : Int} (h : a = b) (c : Bool) : Ending.returned (.tuple #[.int .i64 a, .bool c]) = .returned (.tuple #[.int .i64 b, .bool c]) := by rw [h]

set_option maxHeartbeats 400000 in
theorem specDec_any (s : ByteArray) (k : Nat) (w : World) (hs : s.size ≤ maxLen) (h1 : 1 ≤ k) (h2 : k ≤ 7) (h3 : k ≤ s.size) :
    Calls Try.prog 11 #[.string s, .int .i64 k] w fun e w' => e = .returned (.tuple #[.int .i64 (numK s k), .bool true]) ∧ w = w' := by
  unfold maxLen at hs
  have h3' : ¬ s.size < k := by omega
  go_enter Try.func11, Try.ntmps11
  go_wp2
  go_loop [6, 7] (fun n i => ∃ j : Nat, j ≤ k ∧ i = .int .i64 j ∧ n = .int .i64 (numK s j)) (fun _ i => k - (intOf i).toNat)
  case atStart => exact ⟨0, Nat.zero_le _, rfl, rfl⟩
  case round =>
    obtain ⟨j, hj, rfl, rfl⟩ := hrel
    by_cases hlt : j < k
    · have hjs : j < s.size := by omega
      have hbd := numK_lt s j (by omega)
      have hb8 : (s[j].toNat : Int) < 256 := by have := UInt8.toNat_lt s[j]; omega
      have hb0 : 0 ≤ (s[j].toNat : Int) := by omega
      have HS : Hid (numK s (j + 1) = numK s j * 256 + (s[j].toNat : Int)) := by unfold Hid; rw [numK, byteAt_in s j hjs]
      go_wp2
      go_round
      case rel => exact ⟨j + 1, by omega, by go_num, by rw [HS.out]⟩
      case measure => simp [intOf]; omega
    · obtain rfl : j = k := by omega
      go_wp2
      go_ret2
      exact ⟨rfl, rfl⟩

set_option maxHeartbeats 400000 in
theorem implDec_any (s : ByteArray) (k : Nat) (w : World) (hs : s.size ≤ maxLen) (h1 : 1 ≤ k) (h2 : k ≤ 7) (h3 : k ≤ s.size) :
    Calls Try.prog 12 #[.string s, .int .i64 k] w fun e w' => e = .returned (.tuple #[.int .i64 (numK s k), .bool true]) ∧ w = w' := by
  unfold maxLen at hs
  have h3' : ¬ s.size < k := by omega
  go_enter Try.func12, Try.ntmps12
  go_wp2
  go_loop [6, 18] (fun n i => ∃ j : Nat, j ≤ k ∧ i = .int .i64 j ∧ n = .int .i64 (numK s j)) (fun _ i => k - (intOf i).toNat)
  case atStart => exact ⟨0, Nat.zero_le _, rfl, rfl⟩
  case round =>
    obtain ⟨j, hj, rfl, rfl⟩ := hrel
    by_cases hlt : j < k
    · have hjs : j < s.size := by omega
      have hbd := numK_lt s j (by omega)
      have hb8 : (s[j].toNat : Int) < 256 := by have := UInt8.toNat_lt s[j]; omega
      have hb0 : 0 ≤ (s[j].toNat : Int) := by omega
      have hor := bits_or_sum 8 (numK s j) (s[j].toNat : Int) (by omega) (by omega) (by omega) (by omega)
      have HO := Lib.hid hor
      clear hor
      have HS : Hid (numK s (j + 1) = numK s j * 256 + (s[j].toNat : Int)) := by unfold Hid; rw [numK, byteAt_in s j hjs]
      go_wp2
      go_round
      case rel => exact ⟨j + 1, by omega, by go_num, by rw [HS.out]; exact congrArg (Value.int .i64) HO.out⟩
      case measure => simp [intOf]; omega
    · obtain rfl : j = k := by omega
      go_wp2
      go_ret2
      exact ⟨rfl, rfl⟩
end Go.Proofs.Ytfidmjpgceljkaa
