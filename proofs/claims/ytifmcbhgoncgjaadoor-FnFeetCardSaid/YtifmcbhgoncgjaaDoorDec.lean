/- Decimal numerals: plain mathematics on numbers and lists of bytes, no condition. -/
import Derived.Test.YtifmcbhgoncgjaaDoorMath
import Derived.Lib.ItoaMem
import Derived.Lib.ItoaLen
namespace Go.Proofs.YtifmcbhgoncgjaaDoor.M
open Go.Lib
/-- The digits of c, none for 0. -/
def dd (c : Nat) : List UInt8 := if c = 0 then [] else decDigits c
theorem dd_pos {c : Nat} (h : 0 < c) : dd c = decDigits c := by unfold dd; rw [if_neg (by omega)]
theorem dd_zero : dd 0 = [] := rfl
theorem dd_step {c : Nat} (h : 0 < c) : dd c = dd (c / 10) ++ [byt (48 + (c % 10 : Nat))] := by
  rw [dd_pos h, decDigits]
  have hb : ∀ d : Nat, byt (48 + (d : Int)) = UInt8.ofNat (48 + d) := fun d => by unfold byt; congr 1
  split
  · rename_i h9
    rw [show c / 10 = 0 by omega, dd_zero, hb, Nat.mod_eq_of_lt h9]
    rfl
  · rw [dd_pos (by omega), hb]
theorem lt_div (c f : Nat) (h : c < 10 ^ (f + 1)) : c / 10 < 10 ^ f := by
  rw [Nat.pow_succ] at h
  omega
theorem byt_digit (d : Nat) : byt (48 + (d : Int)) = 48 + UInt8.ofNat d := by
  unfold byt
  rw [show ((48 : Int) + (d : Int)).toNat = 48 + d by omega, UInt8.ofNat_add]
  rfl
theorem cat_one (a : UInt8) (l : List UInt8) : (⟨#[a]⟩ : ByteArray) ++ ⟨l.toArray⟩ = ⟨(a :: l).toArray⟩ := by
  apply ByteArray.ext
  simp
end Go.Proofs.YtifmcbhgoncgjaaDoor.M
