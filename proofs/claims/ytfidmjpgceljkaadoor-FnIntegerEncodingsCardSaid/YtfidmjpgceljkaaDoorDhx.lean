/- Reading hexadecimal digits: plain mathematics on bytes, no condition. -/
import Derived.Test.YtfidmjpgceljkaaDoorHex
import Derived.Test.YtfidmjpgceljkaaDoorNum
namespace Go.Proofs.YtfidmjpgceljkaaDoor.M
/-- The value of a digit; -1 for what is none. -/
def hv (n : Int) : Int := if 48 ≤ n ∧ n ≤ 57 then n - 48 else if 97 ≤ n ∧ n ≤ 102 then n - 87 else -1
theorem hv_hexd (k : Int) (h0 : 0 ≤ k) (h1 : k < 16) : hv (hexd k) = k := by
  unfold hexd
  split
  · unfold hv; rw [if_pos (by omega)]; omega
  · unfold hv; rw [if_neg (by omega), if_pos (by omega)]; omega
theorem hv_none (x : Int) (h : ∀ k : Nat, k < 16 → hexd k ≠ x) : hv x = -1 := by
  unfold hv
  split
  · rename_i hx
    have := h (x - 48).toNat (by omega)
    unfold hexd at this
    rw [if_pos (by omega)] at this
    omega
  · split
    · rename_i hx
      have := h (x - 87).toNat (by omega)
      unfold hexd at this
      rw [if_neg (by omega)] at this
      omega
    · rfl
theorem hv_bd (x : Int) : -1 ≤ hv x ∧ hv x < 16 := by unfold hv; split; omega; split <;> omega
theorem hv_high (x : Int) (h : 128 ≤ x) : hv x = -1 := by unfold hv; rw [if_neg (by omega), if_neg (by omega)]
/-- The bytes whose digits are these, if there are such. -/
def dh : List UInt8 → Option (List UInt8)
  | [] => some []
  | [_] => none
  | a :: b :: t => if hv a.toNat < 0 ∨ hv b.toNat < 0 then none else (dh t).map (byt (16 * hv a.toNat + hv b.toNat) :: ·)
theorem dh_odd : ∀ l : List UInt8, l.length % 2 = 1 → dh l = none
  | [], h => by simp at h
  | [_], _ => rfl
  | a :: b :: t, h => by
    rw [dh, dh_odd t (by simp at h; omega)]
    split <;> rfl
theorem drop_two (s : ByteArray) (k : Nat) (h : k + 1 < s.size) : s.data.toList.drop k = s[k] :: s[k + 1] :: s.data.toList.drop (k + 2) := by
  have hl : s.data.toList.length = s.size := by simp
  rw [List.drop_eq_getElem_cons (by omega), List.drop_eq_getElem_cons (by omega)]
  rfl
/-- One pair of digits more. -/
theorem dh_step (s : ByteArray) (k : Nat) (h : k + 1 < s.size) (out : List UInt8) (hd : dh s.data.toList = (dh (s.data.toList.drop k)).map (out ++ ·)) (ha : 0 ≤ hv (s[k].toNat : Int)) (hb : 0 ≤ hv (s[k + 1].toNat : Int)) :
    dh s.data.toList = (dh (s.data.toList.drop (k + 2))).map ((out ++ [byt (16 * hv (s[k].toNat : Int) + hv (s[k + 1].toNat : Int))]) ++ ·) := by
  rw [hd, drop_two s k h, dh, if_neg (by omega)]
  cases dh (s.data.toList.drop (k + 2)) <;> simp
theorem dh_fail (s : ByteArray) (k : Nat) (h : k + 1 < s.size) (out : List UInt8) (hd : dh s.data.toList = (dh (s.data.toList.drop k)).map (out ++ ·)) (hn : hv (s[k].toNat : Int) < 0 ∨ hv (s[k + 1].toNat : Int) < 0) :
    dh s.data.toList = none := by
  rw [hd, drop_two s k h, dh, if_pos hn]; rfl
theorem dh_end (s : ByteArray) (k : Nat) (h : s.size ≤ k) (out : List UInt8) (hd : dh s.data.toList = (dh (s.data.toList.drop k)).map (out ++ ·)) : dh s.data.toList = some out := by
  rw [hd, List.drop_eq_nil_of_le (by simpa using h)]
  simp [dh]
end Go.Proofs.YtfidmjpgceljkaaDoor.M
