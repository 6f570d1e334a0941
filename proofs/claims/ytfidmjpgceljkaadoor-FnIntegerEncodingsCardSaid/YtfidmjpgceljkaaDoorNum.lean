/- The number that the first bytes of a text encode: plain mathematics, no condition. -/
namespace Go.Proofs.YtfidmjpgceljkaaDoor.M
def byteAt (s : ByteArray) (k : Nat) : Int := if h : k < s.size then (s[k].toNat : Int) else 0
theorem byteAt_in (s : ByteArray) (k : Nat) (h : k < s.size) : byteAt s k = (s[k].toNat : Int) := by unfold byteAt; rw [dif_pos h]
theorem byteAt_bd (s : ByteArray) (k : Nat) : 0 ≤ byteAt s k ∧ byteAt s k < 256 := by
  unfold byteAt
  split
  · rename_i h
    have := UInt8.toNat_lt (s[k])
    omega
  · omega
def numK (s : ByteArray) : Nat → Int
  | 0 => 0
  | k + 1 => numK s k * 256 + byteAt s k
theorem numK_bd (s : ByteArray) (k : Nat) : 0 ≤ numK s k ∧ numK s k < 256 ^ k := by
  induction k with
  | zero => simp [numK]
  | succ k ih =>
    have := byteAt_bd s k
    rw [numK, Int.pow_succ]
    omega
theorem numK_lt (s : ByteArray) (k : Nat) (h : k ≤ 6) : 0 ≤ numK s k ∧ numK s k < 281474976710656 := by
  have := numK_bd s k
  rcases (show k = 0 ∨ k = 1 ∨ k = 2 ∨ k = 3 ∨ k = 4 ∨ k = 5 ∨ k = 6 from by omega) with rfl | rfl | rfl | rfl | rfl | rfl | rfl <;> omega
end Go.Proofs.YtfidmjpgceljkaaDoor.M
