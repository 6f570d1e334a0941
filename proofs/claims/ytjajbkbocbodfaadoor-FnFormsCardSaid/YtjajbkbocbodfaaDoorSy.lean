/- Syllables: plain mathematics. -/
import Derived.Test.YtjajbkbocbodfaaDoorFm
import Derived.Test.YtjajbkbocbodfaaDoorY0
namespace Go.Proofs.YtjajbkbocbodfaaDoor
open Go.RowKit M

def byA (s : ByteArray) (i : Nat) : UInt8 := s.data.toList.getD i 0
/-- One byte more: the syllables that are whole, and the one under way. -/
def syStep (s : ByteArray) (i : Nat) (t : List Syl × Syl) : List Syl × Syl :=
  if hasF (bAt s i) 0 = true then (if t.2.n = [] then (t.1, ⟨t.2.o, [byA s i], t.2.c⟩) else (t.1 ++ [t.2], ⟨[], [byA s i], []⟩))
  else if t.2.n = [] then (t.1, ⟨t.2.o ++ [byA s i], t.2.n, t.2.c⟩)
  else if vowAt s ((i : Int) + 1) = true then (t.1 ++ [t.2], ⟨[byA s i], [], []⟩)
  else (t.1, ⟨t.2.o, t.2.n, t.2.c ++ [byA s i]⟩)
def syT (s : ByteArray) : Nat → List Syl × Syl
  | 0 => ([], syZ)
  | i + 1 => syStep s i (syT s i)
theorem syT_vow_new {s : ByteArray} {i : Nat} {l : List Syl} {x : Syl} (h : syT s i = (l, x)) (hv : hasF (bAt s i) 0 = true) (hn : ¬ x.n = []) : syT s (i + 1) = (l ++ [x], ⟨[], [byA s i], []⟩) := by
  rw [syT, h, syStep, if_pos hv, if_neg hn]
theorem syT_vow_in {s : ByteArray} {i : Nat} {l : List Syl} {x : Syl} (h : syT s i = (l, x)) (hv : hasF (bAt s i) 0 = true) (hn : x.n = []) : syT s (i + 1) = (l, ⟨x.o, [byA s i], x.c⟩) := by
  rw [syT, h, syStep, if_pos hv, if_pos hn]
theorem syT_onset {s : ByteArray} {i : Nat} {l : List Syl} {x : Syl} (h : syT s i = (l, x)) (hv : hasF (bAt s i) 0 = false) (hn : x.n = []) : syT s (i + 1) = (l, ⟨x.o ++ [byA s i], x.n, x.c⟩) := by
  rw [syT, h, syStep, if_neg (by simp [hv]), if_pos hn]
theorem syT_next {s : ByteArray} {i : Nat} {l : List Syl} {x : Syl} (h : syT s i = (l, x)) (hv : hasF (bAt s i) 0 = false) (hn : ¬ x.n = []) (h1 : vowAt s ((i : Int) + 1) = true) : syT s (i + 1) = (l ++ [x], ⟨[byA s i], [], []⟩) := by
  rw [syT, h, syStep, if_neg (by simp [hv]), if_neg hn, if_pos h1]
theorem syT_coda {s : ByteArray} {i : Nat} {l : List Syl} {x : Syl} (h : syT s i = (l, x)) (hv : hasF (bAt s i) 0 = false) (hn : ¬ x.n = []) (h1 : vowAt s ((i : Int) + 1) = false) : syT s (i + 1) = (l, ⟨x.o, x.n, x.c ++ [byA s i]⟩) := by
  rw [syT, h, syStep, if_neg (by simp [hv]), if_neg hn, if_neg (by simp [h1])]
def sylL (s : ByteArray) : List Syl := if isFm s = true ∧ 0 < cntV s s.size then (syT s s.size).1 ++ [(syT s s.size).2] else []
/-- What holds on the way. -/
structure SyInv (s : ByteArray) (i : Nat) (t : List Syl × Syl) : Prop where
  join : joinL t.1 ++ sylB t.2 = s.data.toList.take i
  count : t.1.length + (if t.2.n = [] then 0 else 1) = cntV s i
  coda : t.2.n = [] → t.2.c = []
  wait : t.2.n = [] → cntV s i = 0 ∨ (i < s.size ∧ hasF (bAt s i) 0 = true)
  size : t.1.length ≤ i
theorem take_byA (s : ByteArray) (i : Nat) (h : i < s.size) : s.data.toList.take (i + 1) = s.data.toList.take i ++ [byA s i] := by
  have hl : i < s.data.toList.length := by simpa using h
  unfold byA
  rw [List.take_add_one, List.getElem?_eq_getElem hl, List.getD_eq_getElem?_getD, List.getElem?_eq_getElem hl]; rfl
theorem sy_inv (s : ByteArray) : ∀ i, i ≤ s.size → SyInv s i (syT s i)
  | 0, _ => ⟨by simp [syT, joinL, sylB, syZ], by simp [syT, syZ, cntV], fun _ => rfl, fun _ => .inl (by simp [cntV]), by simp [syT]⟩
  | i + 1, h => by
    have ih := sy_inv s i (by omega)
    have ht := take_byA s i (by omega)
    generalize hst : syT s i = t at ih
    obtain ⟨l, x⟩ := t
    obtain ⟨i1, i2, i3, i4, i5⟩ := ih
    simp only at i1 i2 i3 i4 i5
    by_cases hv : hasF (bAt s i) 0 = true
    · by_cases hn : x.n = []
      · rw [syT_vow_in hst hv hn]
        refine ⟨?_, ?_, ?_, ?_, by simp only; omega⟩
        · rw [ht, ← i1]; simp [sylB, hn, i3 hn]
        · rw [cntV_yes s i hv, ← i2]; simp [hn]
        · simp
        · simp
      · rw [syT_vow_new hst hv hn]
        refine ⟨?_, ?_, ?_, ?_, by simp only [List.length_append, List.length_singleton]; omega⟩
        · rw [ht, ← i1, joinL_add]; simp [sylB]
        · rw [cntV_yes s i hv, ← i2]; simp [hn]
        · simp
        · simp
    · have hv : hasF (bAt s i) 0 = false := by simpa using hv
      by_cases hn : x.n = []
      · rw [syT_onset hst hv hn]
        refine ⟨?_, ?_, ?_, ?_, by simp only; omega⟩
        · rw [ht, ← i1]; simp [sylB, hn, i3 hn]
        · rw [cntV_no s i hv, ← i2]
        · exact fun _ => i3 hn
        · intro _
          rcases i4 hn with h0 | ⟨_, h0⟩
          · left; rw [cntV_no s i hv]; exact h0
          · rw [hv] at h0; cases h0
      · by_cases h1 : vowAt s ((i : Int) + 1) = true
        · rw [syT_next hst hv hn h1]
          refine ⟨?_, ?_, ?_, ?_, by simp only [List.length_append, List.length_singleton]; omega⟩
          · rw [ht, ← i1, joinL_add]; simp [sylB]
          · rw [cntV_no s i hv, ← i2]; simp [hn]
          · simp
          · intro _
            right
            by_cases h2 : i + 1 < s.size
            · refine ⟨h2, ?_⟩
              have := vowAt_in s (i + 1) h2
              rw [← this]
              exact h1
            · unfold vowAt at h1
              have : decide ((i : Int) + 1 < (s.size : Int)) = false := by simp; omega
              rw [this] at h1
              simp at h1
        · have h1 : vowAt s ((i : Int) + 1) = false := by simpa using h1
          rw [syT_coda hst hv hn h1]
          refine ⟨?_, ?_, ?_, ?_, by simp only; omega⟩
          · rw [ht, ← i1]; simp [sylB]
          · rw [cntV_no s i hv, ← i2]
          · exact fun h => absurd h hn
          · exact fun h => absurd h hn
theorem sylL_in {s : ByteArray} (h : isFm s = true) (hv : 0 < cntV s s.size) : sylL s = (syT s s.size).1 ++ [(syT s s.size).2] := if_pos ⟨h, hv⟩
theorem sylL_out {s : ByteArray} (h : ¬ (isFm s = true ∧ 0 < cntV s s.size)) : sylL s = [] := if_neg h
theorem sylL_last {s : ByteArray} (hv : 0 < cntV s s.size) : ¬ (syT s s.size).2.n = [] := by
  intro h
  rcases (sy_inv s s.size (Nat.le_refl _)).wait h with h0 | ⟨h0, _⟩ <;> omega
theorem sylL_join {s : ByteArray} (h : sylL s ≠ []) : joinL (sylL s) = s.data.toList := by
  unfold sylL at h ⊢
  split at h
  · rename_i hc
    rw [if_pos hc, joinL_add, (sy_inv s s.size (Nat.le_refl _)).join, List.take_of_length_le (by simp)]
  · exact absurd rfl h
theorem sylL_count {s : ByteArray} (h : sylL s ≠ []) : (sylL s).length = cntV s s.size := by
  unfold sylL at h ⊢
  split at h
  · rename_i hc
    have := (sy_inv s s.size (Nat.le_refl _)).count
    rw [if_neg (sylL_last hc.2)] at this
    rw [if_pos hc, List.length_append, List.length_singleton, this]
  · exact absurd rfl h
theorem sylL_len (s : ByteArray) : (sylL s).length ≤ 9 := by
  unfold sylL
  split
  · rename_i hc
    have h1 := (sy_inv s s.size (Nat.le_refl _)).size
    have h2 := isFm_size hc.1
    rw [List.length_append, List.length_singleton]; omega
  · simp
end Go.Proofs.YtjajbkbocbodfaaDoor
