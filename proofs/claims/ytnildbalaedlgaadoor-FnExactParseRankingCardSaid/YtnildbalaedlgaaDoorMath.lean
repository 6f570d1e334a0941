/- Plain mathematics on numbers and lists of bytes: no condition. -/
namespace Go.Proofs.YtnildbalaedlgaaDoor.M
set_option maxRecDepth 100000

/-- The byte of a number. -/
def byt (n : Int) : UInt8 := UInt8.ofNat n.toNat
/-- The lowest k bytes of n, the highest first. -/
def lowB (n : Int) : Nat → List UInt8
  | 0 => []
  | k + 1 => lowB (n / 256) k ++ [byt (n % 256)]
/-- What is left of n above its lowest k bytes. -/
def hiB (n : Int) : Nat → Int
  | 0 => n
  | k + 1 => hiB (n / 256) k
theorem lowB_len (n : Int) (k : Nat) : (lowB n k).length = k := by
  induction k generalizing n with
  | zero => rfl
  | succ k ih => simp [lowB, ih]
theorem hiB_eq (n : Int) (k : Nat) : hiB n k = n / 256 ^ k := by
  induction k generalizing n with
  | zero => simp [hiB]
  | succ k ih => rw [hiB, ih, Int.ediv_ediv_of_nonneg (by omega), Int.pow_succ']
/-- The text of EncodeFixed for a width in its range and n at least 0. -/
def encF (n : Int) (k : Nat) : ByteArray := if hiB n k = 0 then ⟨(lowB n k).toArray⟩ else ⟨#[]⟩
theorem encF_in {n : Int} {k : Nat} {c : Int} {out : List UInt8} (h : hiB n k = c) (h0 : c = 0) (hl : lowB n k = out) : encF n k = ⟨out.toArray⟩ := by
  unfold encF; rw [h, if_pos h0, hl]
theorem encF_out {n : Int} {k : Nat} {c : Int} (h : hiB n k = c) (h0 : 0 < c) : encF n k = ⟨#[]⟩ := by
  unfold encF; rw [h, if_neg (by omega)]
end Go.Proofs.YtnildbalaedlgaaDoor.M
namespace Go.Proofs.YtnildbalaedlgaaDoor.M
set_option maxRecDepth 100000
theorem byt_toNat (x : Int) (h0 : 0 ≤ x) (h1 : x < 256) : ((byt x).toNat : Int) = x := by
  unfold byt
  rw [UInt8.toNat_ofNat']
  omega
theorem hiB_pow (n : Int) (k : Nat) : hiB n k = n / 2 ^ (8 * k) := by
  rw [hiB_eq, Int.pow_mul]; rfl
end Go.Proofs.YtnildbalaedlgaaDoor.M
