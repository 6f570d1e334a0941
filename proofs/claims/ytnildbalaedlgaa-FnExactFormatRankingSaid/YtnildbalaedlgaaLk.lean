/- The laws' marks of texts: what markText answers; what is kept over calls. -/
import Derived.Test.YtnildbalaedlgaaLk0
import Derived.Test.YtnildbalaedlgaaRow
import Derived.Test.YtnildbalaedlgaaSl
import Derived.BigQuiet
import Derived.Lib.QuietBelow
import Derived.Below
namespace Go.Proofs.Ytnildbalaedlgaa
set_option maxRecDepth 100000
open Go.RowKit Go.Sort M

theorem byt_dig (c : Nat) : byt ((48 + c % 10 : Nat) : Int) = 48 + UInt8.ofNat (c % 10) := by
  unfold byt
  rw [Int.toNat_natCast]
  apply UInt8.toNat_inj.1
  simp [UInt8.toNat_add]
theorem cat_one9 (a : UInt8) (l : List UInt8) : (⟨#[a]⟩ : ByteArray) ++ ⟨l.toArray⟩ = ⟨(a :: l).toArray⟩ := by
  apply ByteArray.ext
  simp
/-- The mark's text: m and the numeral. -/
def mkD : Nat → Nat → List UInt8 → List UInt8
  | 0, _, out => out
  | f + 1, c, out => if c = 0 then out else mkD f (c / 10) (byt ((48 + c % 10 : Nat) : Int) :: out)
theorem mkD_zero (f : Nat) (out : List UInt8) : mkD f 0 out = out := by cases f <;> simp [mkD]
theorem mkD_pos (f c : Nat) (out : List UInt8) (h : c ≠ 0) : mkD (f + 1) c out = mkD f (c / 10) (byt ((48 + c % 10 : Nat) : Int) :: out) := by simp [mkD, h]
def mkT (k : Nat) : ByteArray := ⟨(109 :: mkD 20 k []).toArray⟩
end Go.Proofs.Ytnildbalaedlgaa
