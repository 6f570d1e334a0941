/- Sounds chosen by a test, in the order of Sounds: plain mathematics. -/
import Derived.Test.YtpcggbpfpicjiaaDoorShv
import Derived.Test.YtpcggbpfpicjiaaDoorMath
namespace Go.Proofs.YtpcggbpfpicjiaaDoor
open M

/-- The first j sounds that pass the test. -/
def clsL (p : Int → Bool) (j : Nat) : List UInt8 := ((List.range j).filter fun k => p (sndAt k)).map fun k => byt (sndAt k)
theorem clsL_zero (p : Int → Bool) : clsL p 0 = [] := rfl
theorem clsL_yes (p : Int → Bool) (j : Nat) (h : p (sndAt j) = true) : clsL p (j + 1) = clsL p j ++ [byt (sndAt j)] := by
  unfold clsL; rw [List.range_succ, List.filter_append, List.map_append]; simp [h]
theorem clsL_no (p : Int → Bool) (j : Nat) (h : p (sndAt j) = false) : clsL p (j + 1) = clsL p j := by
  unfold clsL; rw [List.range_succ, List.filter_append, List.map_append]; simp [h]
theorem clsL_len (p : Int → Bool) (j : Nat) : (clsL p j).length ≤ j := by
  unfold clsL; rw [List.length_map]; exact Nat.le_trans (List.length_filter_le _ _) (by simp)
theorem sndAt_ge (k : Nat) : 0 ≤ sndAt k ∧ sndAt k < 256 := by
  match k with
  | 0 | 1 | 2 | 3 | 4 | 5 | 6 => decide
  | n + 7 => simp [sndAt]
def eq5 (A B : Nat → Int) : Bool := A 0 == B 0 && (A 1 == B 1 && (A 2 == B 2 && (A 3 == B 3 && A 4 == B 4)))
/-- Whether a sound agrees with what is shared. -/
def keepB (F : Nat → Int) (x : Int) : Bool := eq5 (com F (sg x)) F
theorem keepB_iff (F : Nat → Int) (x : Int) : keepB F x = true ↔ ∀ k, k < 5 → com F (sg x) k = F k := by
  unfold keepB eq5
  simp only [Bool.and_eq_true, beq_iff_eq]
  constructor
  · rintro ⟨h0, h1, h2, h3, h4⟩ k hk
    match k, hk with
    | 0, _ => exact h0 | 1, _ => exact h1 | 2, _ => exact h2 | 3, _ => exact h3 | 4, _ => exact h4
  · intro h
    exact ⟨h 0 (by omega), h 1 (by omega), h 2 (by omega), h 3 (by omega), h 4 (by omega)⟩
theorem com_keep (F : Nat → Int) (x : Int) (k : Nat) : com F (sg x) k = F k ↔ (F k = 0 ∨ F k = sg x k) := by
  unfold com
  by_cases h : F k = sg x k
  · rw [if_pos h]; simp [h]
  · rw [if_neg h]
    constructor
    · intro h2; exact Or.inl h2.symm
    · rintro (h2 | h2)
      · exact h2.symm
      · exact absurd h2 h
end Go.Proofs.YtpcggbpfpicjiaaDoor
