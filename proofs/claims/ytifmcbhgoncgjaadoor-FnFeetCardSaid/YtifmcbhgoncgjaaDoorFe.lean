/- All ways to put feet: plain mathematics. -/
import Derived.Test.YtifmcbhgoncgjaaDoorFo
namespace Go.Proofs.YtifmcbhgoncgjaaDoor
open Go.RowKit
set_option linter.unusedVariables false

def consF (a z h : Nat) (R : List (List DFoot)) : List (List DFoot) := R.map fun r => (⟨a, z, h⟩ : DFoot) :: r
/-- The feet on d syllables from a on. -/
def feetD : Nat → Nat → List (List DFoot)
  | 0, _ => [[]]
  | 1, a => feetD 0 (a + 1) ++ consF a 1 0 (feetD 0 (a + 1))
  | d + 2, a => feetD (d + 1) (a + 1) ++ consF a 1 0 (feetD (d + 1) (a + 1)) ++ consF a 2 0 (feetD d (a + 2)) ++ consF a 2 1 (feetD d (a + 2))
def hdS (b : List (List DFoot)) (a z : Nat) (R : List (List DFoot)) : Nat → List (List DFoot)
  | 0 => b
  | h + 1 => hdS b a z R h ++ consF a z h R
def restZ (d a z : Nat) : List (List DFoot) := feetD (d + 1 - z) (a + z)
def stZ (d a : Nat) : Nat → List (List DFoot)
  | 0 => []
  | 1 => restZ d a 1
  | z + 2 => hdS (stZ d a (z + 1)) a (z + 1) (restZ d a (z + 1)) (z + 1)
theorem stZ_step (d a z : Nat) (hz : 1 ≤ z) : stZ d a (z + 1) = hdS (stZ d a z) a z (restZ d a z) z := by
  obtain ⟨z, rfl⟩ : ∃ y, z = y + 1 := ⟨z - 1, by omega⟩
  rfl
theorem feetD_end0 (a : Nat) : feetD 1 a = stZ 0 a 2 := by simp [stZ, hdS, restZ, feetD]
theorem feetD_end (d a : Nat) : feetD (d + 2) a = stZ (d + 1) a 3 := by simp [stZ, hdS, restZ, feetD, List.append_assoc]
theorem consF_len (a z h : Nat) (R : List (List DFoot)) : (consF a z h R).length = R.length := by simp [consF]
theorem hdS_len (b : List (List DFoot)) (a z : Nat) (R : List (List DFoot)) : ∀ h, (hdS b a z R h).length = b.length + h * R.length
  | 0 => by simp [hdS]
  | h + 1 => by rw [hdS, List.length_append, hdS_len b a z R h, consF_len, Nat.succ_mul]; omega
def feetN : Nat → Nat
  | 0 => 1
  | 1 => 2
  | d + 2 => 2 * feetN (d + 1) + 2 * feetN d
theorem feetD_len : ∀ d a, (feetD d a).length = feetN d
  | 0, _ => rfl
  | 1, _ => rfl
  | d + 2, a => by
    rw [feetD, List.length_append, List.length_append, List.length_append, consF_len, consF_len, consF_len, feetD_len (d + 1), feetD_len d, feetN]
    omega
theorem feetN_le {d : Nat} (h : d ≤ 4) : feetN d ≤ 44 := by
  match d, h with
  | 0, _ => decide
  | 1, _ => decide
  | 2, _ => decide
  | 3, _ => decide
  | 4, _ => decide
theorem restZ_len {d a z : Nat} (hd : d ≤ 3) (hz : 1 ≤ z) : (restZ d a z).length ≤ 44 := by
  unfold restZ; rw [feetD_len]; exact feetN_le (by omega)
theorem stZ_len {d a : Nat} (hd : d ≤ 3) (z : Nat) (hz : z ≤ 3) : (stZ d a z).length ≤ 1000 := by
  have l0 : (stZ d a 0).length = 0 := rfl
  have l1 : (stZ d a 1).length = (restZ d a 1).length := rfl
  have l2 : (stZ d a 2).length = (stZ d a 1).length + 1 * (restZ d a 1).length := hdS_len _ _ _ _ 1
  have l3 : (stZ d a 3).length = (stZ d a 2).length + 2 * (restZ d a 2).length := hdS_len _ _ _ _ 2
  have r1 := restZ_len (d := d) (a := a) (z := 1) hd (by omega)
  have r2 := restZ_len (d := d) (a := a) (z := 2) hd (by omega)
  have hz4 : z = 0 ∨ z = 1 ∨ z = 2 ∨ z = 3 := by omega
  rcases hz4 with rfl | rfl | rfl | rfl
  · omega
  · omega
  · omega
  · omega
/-- Rows are short. -/
theorem feetD_row : ∀ d a, ∀ r ∈ feetD d a, r.length ≤ d
  | 0, _, r, h => by simp [feetD] at h; subst h; simp
  | 1, a, r, h => by
    rw [feetD] at h
    rcases List.mem_append.1 h with h | h
    · exact Nat.le_succ_of_le (feetD_row 0 _ r h)
    · unfold consF at h
      obtain ⟨q, hq, rfl⟩ := List.mem_map.1 h
      have := feetD_row 0 _ q hq
      simp only [List.length_cons]; omega
  | d + 2, a, r, h => by
    rw [feetD] at h
    rcases List.mem_append.1 h with h | h
    · rcases List.mem_append.1 h with h | h
      · rcases List.mem_append.1 h with h | h
        · exact Nat.le_succ_of_le (feetD_row (d + 1) _ r h)
        · unfold consF at h
          obtain ⟨q, hq, rfl⟩ := List.mem_map.1 h
          have := feetD_row (d + 1) _ q hq
          simp only [List.length_cons]; omega
      · unfold consF at h
        obtain ⟨q, hq, rfl⟩ := List.mem_map.1 h
        have := feetD_row d _ q hq
        simp only [List.length_cons]; omega
    · unfold consF at h
      obtain ⟨q, hq, rfl⟩ := List.mem_map.1 h
      have := feetD_row d _ q hq
      simp only [List.length_cons]; omega
theorem consF_take (a z h : Nat) (R : List (List DFoot)) (i : Nat) {r : List DFoot} (hr : R[i]? = some r) : consF a z h (R.take (i + 1)) = consF a z h (R.take i) ++ [(⟨a, z, h⟩ : DFoot) :: r] := by
  rw [take_succ_of hr]; simp [consF]
end Go.Proofs.YtifmcbhgoncgjaaDoor
