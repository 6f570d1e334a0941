/- Varints: plain mathematics on numbers and lists of bytes, no condition. -/
import Derived.Test.YtfidmjpgceljkaaDoorMath
namespace Go.Proofs.YtfidmjpgceljkaaDoor.M
/-- The varint of n in at most f + 1 bytes. -/
def vl : Nat → Int → List UInt8
  | 0, n => [byt n]
  | f + 1, n => if 128 ≤ n then byt (n % 128 + 128) :: vl f (n / 128) else [byt n]
theorem vl_big (f : Nat) (n : Int) (h : 128 ≤ n) : vl (f + 1) n = byt (n % 128 + 128) :: vl f (n / 128) := by rw [vl, if_pos h]
theorem vl_small (f : Nat) (n : Int) (h : n < 128) : vl f n = [byt n] := by
  cases f with
  | zero => rfl
  | succ f => rw [vl, if_neg (by omega)]
theorem div_lt (f : Nat) (c : Int) (hlt : c < 128 ^ (f + 2)) : c / 128 < 128 ^ (f + 1) := by
  rw [Int.pow_succ] at hlt
  omega
end Go.Proofs.YtfidmjpgceljkaaDoor.M
