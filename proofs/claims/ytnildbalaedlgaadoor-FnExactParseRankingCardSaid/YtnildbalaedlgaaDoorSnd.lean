/- The sounds as numbers: which bytes are sounds, obstruents, and have a feature; plain mathematics. -/
import Derived.Test.YtnildbalaedlgaaDoorRet
import Derived.Lib.Bytealg
import Derived.Lib.Hide
import Derived.WalkKit
namespace Go.Proofs.YtnildbalaedlgaaDoor
set_option maxRecDepth 100000
open Go.RowKit

def isSnd (x : Int) : Bool := x == 112 || x == 116 || x == 98 || x == 100 || x == 110 || x == 97 || x == 105
def isObs (x : Int) : Bool := x == 112 || x == 116 || x == 98 || x == 100
def swapV (x : Int) : Int := if x = 112 then 98 else if x = 98 then 112 else if x = 116 then 100 else if x = 100 then 116 else x
/-- The k-th sound. -/
def sndAt (k : Nat) : Int := [112, 116, 98, 100, 110, 97, 105].getD k 0
def hasF (x f : Int) : Bool :=
  if f = 0 then x == 97 || x == 105 else if f = 1 then x == 98 || x == 100 || x == 110 || x == 97 || x == 105 else if f = 2 then x == 110
  else if f = 3 then x == 112 || x == 98 else if f = 4 then x == 105 else false
theorem snd_index (x : Int) (h0 : 0 ≤ x) (h1 : x < 256) : decide (0 ≤ Lib.indexByte [112, 116, 98, 100, 110, 97, 105] x.toNat.toUInt8) = isSnd x := by
  obtain ⟨n, rfl⟩ := Int.eq_ofNat_of_zero_le h0
  have key : ∀ m : Fin 256, decide (0 ≤ Lib.indexByte [112, 116, 98, 100, 110, 97, 105] m.val.toUInt8) = isSnd (m.val : Int) := by decide +kernel
  exact key ⟨n, by omega⟩
theorem obs_index (x : Int) (h0 : 0 ≤ x) (h1 : x < 256) : decide (0 ≤ Lib.indexByte [112, 116, 98, 100] x.toNat.toUInt8) = isObs x := by
  obtain ⟨n, rfl⟩ := Int.eq_ofNat_of_zero_le h0
  have key : ∀ m : Fin 256, decide (0 ≤ Lib.indexByte [112, 116, 98, 100] m.val.toUInt8) = isObs (m.val : Int) := by decide +kernel
  exact key ⟨n, by omega⟩
/-- The bytes that have a feature, as the program's table has them. -/
def featL : Nat → List UInt8
  | 0 => [97, 105] | 1 => [98, 100, 110, 97, 105] | 2 => [110] | 3 => [112, 98] | 4 => [105] | _ => []
theorem feat_index (x : Int) (k : Nat) (h0 : 0 ≤ x) (h1 : x < 256) (hk : k < 5) : decide (0 ≤ Lib.indexByte (featL k) x.toNat.toUInt8) = hasF x k := by
  obtain ⟨n, rfl⟩ := Int.eq_ofNat_of_zero_le h0
  have key : ∀ k : Fin 5, ∀ m : Fin 256, decide (0 ≤ Lib.indexByte (featL k.val) m.val.toUInt8) = hasF (m.val : Int) (k.val : Int) := by decide +kernel
  exact key ⟨k, hk⟩ ⟨n, by omega⟩
theorem hasF_no (x f : Int) (h : f < 0 ∨ 4 < f) : hasF x f = false := by
  unfold hasF
  rw [if_neg (by omega), if_neg (by omega), if_neg (by omega), if_neg (by omega), if_neg (by omega)]
theorem isSnd_at (x : Int) (k : Nat) (hk : k < 7) (h : sndAt k = x) : isSnd x = true := by
  subst h
  have key : ∀ k : Fin 7, isSnd (sndAt k.val) = true := by decide
  exact key ⟨k, hk⟩
theorem isSnd_none (x : Int) (h : ∀ k, k < 7 → sndAt k ≠ x) : isSnd x = false := by
  have h0 := h 0 (by omega); have h1 := h 1 (by omega); have h2 := h 2 (by omega); have h3 := h 3 (by omega)
  have h4 := h 4 (by omega); have h5 := h 5 (by omega); have h6 := h 6 (by omega)
  simp [sndAt] at h0 h1 h2 h3 h4 h5 h6
  unfold isSnd
  simp
  omega
end Go.Proofs.YtnildbalaedlgaaDoor
