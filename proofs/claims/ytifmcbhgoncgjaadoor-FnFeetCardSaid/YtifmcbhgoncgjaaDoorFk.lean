/- Footings that are listed are footings; marks count all syllables: plain mathematics. -/
import Derived.Test.YtifmcbhgoncgjaaDoorSf7
import Derived.Test.YtifmcbhgoncgjaaDoorSf3
namespace Go.Proofs.YtifmcbhgoncgjaaDoor
open Go.RowKit
set_option linter.unusedVariables false

theorem okFeet_le {n : Int} {l : List DFoot} {a b : Int} (h : b ≤ a) (ho : okFeet n a l = true) : okFeet n b l = true := by
  cases l with
  | nil => rfl
  | cons x l =>
    simp only [okFeet, Bool.and_eq_true] at ho ⊢
    refine ⟨okFoot_iff.2 ?_, ho.2⟩
    have := okFoot_iff.1 ho.1
    omega
theorem okFeet_cons {n : Int} {a z h : Nat} {r : List DFoot} (hz : 1 ≤ z ∧ z ≤ 2) (hh : h < z) (hn : (a : Int) + z ≤ n) (hr : okFeet n ((a + z : Nat) : Int) r = true) : okFeet n (a : Int) ((⟨a, z, h⟩ : DFoot) :: r) = true := by
  simp only [okFeet, Bool.and_eq_true]
  refine ⟨okFoot_iff.2 ⟨by simp, by simp only; omega, by simp only; omega, by simp only; omega, by simp only; omega, by simp only; omega⟩, ?_⟩
  rw [show (a : Int) + (z : Int) = ((a + z : Nat) : Int) from rfl]
  exact hr
theorem feetD_ok : ∀ d a : Nat, ∀ r ∈ feetD d a, okFeet ((a + d : Nat) : Int) (a : Int) r = true
  | 0, a, r, h => by simp [feetD] at h; subst h; rfl
  | 1, a, r, h => by
    rw [feetD] at h
    rcases List.mem_append.1 h with h | h
    · simp [feetD] at h; subst h; rfl
    · unfold consF at h
      obtain ⟨q, hq, rfl⟩ := List.mem_map.1 h
      have h0 := feetD_ok 0 (a + 1) q hq
      rw [show a + 1 + 0 = a + 1 by omega] at h0
      exact okFeet_cons (z := 1) (h := 0) (by omega) (by omega) (by omega) h0
  | d + 2, a, r, h => by
    rw [feetD] at h
    have e1 : a + 1 + (d + 1) = a + (d + 2) := by omega
    have e2 : a + 2 + d = a + (d + 2) := by omega
    rcases List.mem_append.1 h with h | h
    · rcases List.mem_append.1 h with h | h
      · rcases List.mem_append.1 h with h | h
        · have h0 := feetD_ok (d + 1) (a + 1) r h
          rw [e1] at h0
          exact okFeet_le (by omega) h0
        · unfold consF at h
          obtain ⟨q, hq, rfl⟩ := List.mem_map.1 h
          have h0 := feetD_ok (d + 1) (a + 1) q hq
          rw [e1] at h0
          exact okFeet_cons (z := 1) (h := 0) (by omega) (by omega) (by omega) h0
      · unfold consF at h
        obtain ⟨q, hq, rfl⟩ := List.mem_map.1 h
        have h0 := feetD_ok d (a + 2) q hq
        rw [e2] at h0
        exact okFeet_cons (z := 2) (h := 0) (by omega) (by omega) (by omega) h0
    · unfold consF at h
      obtain ⟨q, hq, rfl⟩ := List.mem_map.1 h
      have h0 := feetD_ok d (a + 2) q hq
      rw [e2] at h0
      exact okFeet_cons (z := 2) (h := 1) (by omega) (by omega) (by omega) h0
theorem footAll_ok {n : Int} {f : DFooting} (h : f ∈ footAll n) : isFt f = true := by
  unfold footAll at h
  split at h
  · rename_i hn
    unfold footL at h
    obtain ⟨r, hr, hf⟩ := List.mem_flatMap.1 h
    unfold footR at hf
    obtain ⟨m, hm, rfl⟩ := List.mem_map.1 hf
    rw [List.mem_range] at hm
    have ho := feetD_ok n.toNat 0 r hr
    rw [Nat.zero_add] at ho
    refine isFt_iff.2 ⟨by simp only; omega, by simp only; omega, ?_, by simp only; omega, by simp only; omega⟩
    exact ho
  · simp at h
/-- Marks count all syllables. -/
theorem fmTo_sum {f : DFooting} (hf : isFt f = true) : ∀ k, (fmTo f k).a + (fmTo f k).b + 2 * (fmTo f k).c + 2 * (fmTo f k).d = f.Syllables
  | 0 => by simp [fmTo]
  | k + 1 => by
    obtain ⟨g1, g2, g3, _⟩ := isFt_iff.1 hf
    have ih := fmTo_sum hf k
    rw [fmTo]
    split
    · rename_i x hx
      have := okFeet_at g3 (by omega) hx
      unfold fmStep
      split
      · simp only; omega
      · split
        · simp only; omega
        · simp only; omega
    · exact ih
theorem footFor_ok {s : List Int} {f : DFooting} (h : f ∈ footFor s) : isFt f = true ∧ strL f = s := by
  unfold footFor at h
  obtain ⟨h1, h2⟩ := List.mem_filter.1 h
  exact ⟨footAll_ok h1, by simpa using h2⟩
end Go.Proofs.YtifmcbhgoncgjaaDoor
