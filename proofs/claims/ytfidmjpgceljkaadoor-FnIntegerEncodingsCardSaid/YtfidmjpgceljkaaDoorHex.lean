/- Hexadecimal digits: plain mathematics on bytes, no condition. -/
import Derived.Test.YtfidmjpgceljkaaDoorMath
namespace Go.Proofs.YtfidmjpgceljkaaDoor.M
/-- The digit of a number from 0 to 15. -/
def hexd (n : Int) : Int := if n < 10 then 48 + n else 87 + n
theorem hexd_bd (n : Int) (h0 : 0 ≤ n) (h1 : n < 16) : 0 ≤ hexd n ∧ hexd n < 256 := by unfold hexd; split <;> omega
/-- The two digits of a byte, the high half first. -/
def hex2 (b : UInt8) : List UInt8 := [byt (hexd ((b.toNat : Int) / 16)), byt (hexd ((b.toNat : Int) % 16))]
def hexL (l : List UInt8) : List UInt8 := l.flatMap hex2
theorem hexL_snoc (l : List UInt8) (b : UInt8) : hexL (l ++ [b]) = hexL l ++ hex2 b := by simp [hexL]
theorem hexL_len (l : List UInt8) : (hexL l).length = 2 * l.length := by
  induction l with
  | nil => rfl
  | cons b t ih => rw [show hexL (b :: t) = hex2 b ++ hexL t from rfl, List.length_append, ih]; simp [hex2]; omega
theorem take_snoc (s : ByteArray) (k : Nat) (h : k < s.size) : s.data.toList.take (k + 1) = s.data.toList.take k ++ [s[k]] := by
  rw [List.take_succ_eq_append_getElem (by simpa using h)]; rfl
end Go.Proofs.YtfidmjpgceljkaaDoor.M
