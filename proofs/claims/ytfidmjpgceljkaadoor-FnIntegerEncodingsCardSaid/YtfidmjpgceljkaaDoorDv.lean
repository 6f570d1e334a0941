/- What DecodeVarint answers: plain mathematics on texts and numbers, no condition. -/
import Derived.Test.YtfidmjpgceljkaaDoorNum
import Derived.Test.YtfidmjpgceljkaaDoorVar
namespace Go.Proofs.YtfidmjpgceljkaaDoor.M
/-- The number whose groups of seven bits are the first k bytes, the lowest first. -/
def N7 (s : ByteArray) : Nat → Int
  | 0 => 0
  | k + 1 => N7 s k + byteAt s k % 128 * 128 ^ k
theorem N7_bd (s : ByteArray) (k : Nat) : 0 ≤ N7 s k ∧ N7 s k < 128 ^ k := by
  induction k with
  | zero => simp [N7]
  | succ k ih =>
    have hp : (0 : Int) < 128 ^ k := Int.pow_pos (by decide)
    have hd : 0 ≤ byteAt s k % 128 ∧ byteAt s k % 128 ≤ 127 := by omega
    rw [N7, Int.pow_succ]
    have h1 : 0 ≤ byteAt s k % 128 * 128 ^ k := Int.mul_nonneg hd.1 (by omega)
    have h2 : byteAt s k % 128 * 128 ^ k ≤ 127 * 128 ^ k := Int.mul_le_mul_of_nonneg_right hd.2 (by omega)
    omega
def good (s : ByteArray) (k : Nat) : Prop := vl 6 (N7 s k) = s.data.toList.take k
/-- A varint's shape: all bytes but the last one are at least 128. -/
def Shape : List UInt8 → Prop
  | [] => False
  | [x] => x.toNat < 128
  | x :: y :: t => 128 ≤ x.toNat ∧ Shape (y :: t)
theorem vl_ne (f : Nat) (n : Int) : ∃ x t, vl f n = x :: t := by
  cases f with
  | zero => exact ⟨_, _, rfl⟩
  | succ f =>
    rw [vl]
    split
    · exact ⟨_, _, rfl⟩
    · exact ⟨_, _, rfl⟩
theorem vl_shape (f : Nat) : ∀ n : Int, 0 ≤ n → n < 128 ^ (f + 1) → Shape (vl f n) := by
  induction f with
  | zero =>
    intro n h0 h1
    have h2 := byt_toNat n h0 (by omega)
    show (byt n).toNat < 128
    omega
  | succ f ih =>
    intro n h0 h1
    rw [vl]
    split
    · obtain ⟨x, t, hx⟩ := vl_ne f (n / 128)
      have h2 := ih (n / 128) (by omega) (div_lt f n h1)
      rw [hx] at h2 ⊢
      have h3 := byt_toNat (n % 128 + 128) (by omega) (by omega)
      exact ⟨by omega, h2⟩
    · have h2 := byt_toNat n h0 (by omega)
      show (byt n).toNat < 128
      omega
theorem shape_take : ∀ (l : List UInt8) (k : Nat) (_ : k < l.length), Shape (l.take (k + 1)) → (∀ i (hi : i < l.length), i < k → 128 ≤ l[i].toNat) ∧ l[k].toNat < 128
  | [], k, hk, _ => by simp at hk
  | [x], k, hk, h => by
    have : k = 0 := by simpa using hk
    subst this
    exact ⟨fun i _ hi => by omega, h⟩
  | x :: y :: t, 0, _, h => ⟨fun i _ hi => by omega, h⟩
  | x :: y :: t, k + 1, hk, h => by
    have h' : 128 ≤ x.toNat ∧ Shape ((y :: t).take (k + 1)) := h
    have ih := shape_take (y :: t) k (by simpa using hk) h'.2
    refine ⟨fun i hi hik => ?_, ih.2⟩
    cases i with
    | zero => exact h'.1
    | succ i => exact ih.1 i (by simpa using hi) (by omega)
theorem good_bytes (s : ByteArray) (k : Nat) (hk : k < s.size) (h7 : k < 7) (h : good s (k + 1)) : (∀ i, i < k → 128 ≤ byteAt s i) ∧ byteAt s k < 128 := by
  have hb := N7_bd s (k + 1)
  have hs := vl_shape 6 (N7 s (k + 1)) hb.1 (by
    have h1 : (128 : Int) ^ (k + 1) ≤ 128 ^ 7 := by
      rcases (show k = 0 ∨ k = 1 ∨ k = 2 ∨ k = 3 ∨ k = 4 ∨ k = 5 ∨ k = 6 from by omega) with rfl | rfl | rfl | rfl | rfl | rfl | rfl <;> decide
    have h2 : (128 : Int) ^ (6 + 1) = 128 ^ 7 := rfl
    omega)
  rw [show vl 6 (N7 s (k + 1)) = s.data.toList.take (k + 1) from h] at hs
  have hl : s.data.toList.length = s.size := by simp
  obtain ⟨h1, h2⟩ := shape_take s.data.toList k (by omega) hs
  have e : ∀ i (hi : i < s.size), byteAt s i = ((s.data.toList[i]'(by omega)).toNat : Int) := fun i hi => byteAt_in s i hi
  refine ⟨fun i hi => ?_, ?_⟩
  · rw [e i (by omega)]
    have := h1 i (by omega) hi
    omega
  · rw [e k hk]
    omega
/-- What DecodeVarint answers. -/
def IsDv (s : ByteArray) (x : Int) (k : Nat) : Prop :=
  (∃ j, k = j + 1 ∧ j < s.size ∧ j < 7 ∧ good s k ∧ x = N7 s k ∧ ∀ i, i < j → ¬ good s (i + 1)) ∨ (k = 0 ∧ x = 0 ∧ ∀ i, i < s.size → i < 7 → ¬ good s (i + 1))
theorem IsDv_one {s : ByteArray} {x y : Int} {k m : Nat} (h : IsDv s x k) (h' : IsDv s y m) : x = y ∧ k = m := by
  rcases h with ⟨j, rfl, h1, h2, h3, rfl, h4⟩ | ⟨rfl, rfl, h4⟩
  · rcases h' with ⟨i, rfl, g1, g2, g3, rfl, g4⟩ | ⟨rfl, rfl, g4⟩
    · have : i = j := by
        rcases Nat.lt_trichotomy i j with h | h | h
        · exact absurd g3 (h4 i h)
        · exact h
        · exact absurd h3 (g4 j h)
      subst this
      exact ⟨rfl, rfl⟩
    · exact absurd h3 (g4 j h1 h2)
  · rcases h' with ⟨i, rfl, g1, g2, g3, rfl, g4⟩ | ⟨rfl, rfl, g4⟩
    · exact absurd g3 (h4 i g1 g2)
    · exact ⟨rfl, rfl⟩
/-- The program's way: the first byte below 128 decides. -/
theorem dv_found {s : ByteArray} {k : Nat} (hk : k < s.size) (h7 : k < 7) (hbig : ∀ i, i < k → 128 ≤ byteAt s i) (hg : good s (k + 1)) : IsDv s (N7 s (k + 1)) (k + 1) :=
  .inl ⟨k, rfl, hk, h7, hg, rfl, fun i hi hgi => by
    have := (good_bytes s i (by omega) (by omega) hgi).2
    have := hbig i hi
    omega⟩
theorem dv_bad {s : ByteArray} {k : Nat} (hbig : ∀ i, i < k → 128 ≤ byteAt s i) (hs : byteAt s k < 128) (hg : ¬ good s (k + 1)) : IsDv s 0 0 :=
  .inr ⟨rfl, rfl, fun i hi h7 hgi => by
    have h := good_bytes s i hi h7 hgi
    rcases Nat.lt_trichotomy i k with h' | h' | h'
    · have := hbig i h'; omega
    · subst h'; exact hg hgi
    · have := h.1 k h'; omega⟩
theorem dv_none {s : ByteArray} (hbig : ∀ i, i < s.size → i < 7 → 128 ≤ byteAt s i) : IsDv s 0 0 :=
  .inr ⟨rfl, rfl, fun i hi h7 hgi => by
    have h := (good_bytes s i hi h7 hgi).2
    have := hbig i hi h7
    omega⟩
/-- The model's inner loop: from the highest group down. -/
theorem horner (s : ByteArray) (k m : Nat) (x : Int) (h : N7 s k = x * 128 ^ (m + 1) + N7 s (m + 1)) : N7 s k = (x * 128 + byteAt s m % 128) * 128 ^ m + N7 s m := by
  rw [h, N7, Int.pow_succ, Int.add_mul]
  have : x * (128 ^ m * 128) = x * 128 * 128 ^ m := by rw [Int.mul_comm (128 ^ m), Int.mul_assoc]
  omega
theorem horner_bd (x d : Int) (j : Nat) (h0 : x < 128 ^ j) (h1 : d ≤ 127) : x * 128 + d < 128 ^ (j + 1) := by
  rw [Int.pow_succ]; omega
theorem pow_le7 (j : Nat) (h : j ≤ 7) : (128 : Int) ^ j ≤ 562949953421312 := by
  rcases (show j = 0 ∨ j = 1 ∨ j = 2 ∨ j = 3 ∨ j = 4 ∨ j = 5 ∨ j = 6 ∨ j = 7 from by omega) with rfl | rfl | rfl | rfl | rfl | rfl | rfl | rfl <;> decide
theorem pow_128 (j : Nat) : (128 : Int) ^ j = 2 ^ (7 * j) := by
  rw [Int.pow_mul]; rfl
end Go.Proofs.YtfidmjpgceljkaaDoor.M
