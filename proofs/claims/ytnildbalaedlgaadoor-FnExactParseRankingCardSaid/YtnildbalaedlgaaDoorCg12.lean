/- A text cut at the greater-than sign: plain mathematics. -/
import Derived.Test.YtnildbalaedlgaaDoorN10
namespace Go.Proofs.YtnildbalaedlgaaDoor
set_option maxRecDepth 100000
open Go.RowKit M

/-- The parts of a text between its commas. -/
def cutG (s : ByteArray) : List ByteArray := (cutU 62 s.data.toList).map fun z => ⟨z.toArray⟩
theorem cutG_data (s : ByteArray) : (cutG s).map (·.data.toList) = cutU 62 s.data.toList := by
  unfold cutG
  rw [List.map_map]
  conv => rhs; rw [← List.map_id (cutU 62 s.data.toList)]
  apply List.map_congr_left
  intro z _
  simp
theorem cutG_len (s : ByteArray) : (cutG s).length = (cutU 62 s.data.toList).length := by unfold cutG; rw [List.length_map]
theorem splitG_cut (s : ByteArray) : Lib.splitB ⟨#[62]⟩ 0 (Lib.countB s ⟨#[62]⟩) s = cutG s := by
  have h := Lib.splitB_data ⟨#[62]⟩ 0 (Lib.countB s ⟨#[62]⟩) s
  have h2 := splitK_cut 62 s.data.toList
  have h3 : (Lib.splitB ⟨#[62]⟩ 0 (Lib.countB s ⟨#[62]⟩) s).map (·.data.toList) = cutU 62 s.data.toList := h.trans h2
  unfold cutG
  rw [← h3, List.map_map]
  conv => lhs; rw [← List.map_id (Lib.splitB ⟨#[62]⟩ 0 (Lib.countB s ⟨#[62]⟩) s)]
  apply List.map_congr_left
  intro z _
  simp
theorem cutG_size {x : ByteArray} {s : ByteArray} (h : x ∈ cutG s) : x.size ≤ s.size := by
  unfold cutG at h
  rw [List.mem_map] at h
  obtain ⟨z, hz, rfl⟩ := h
  have h1 := cut_sum 62 s.data.toList
  have h2 : z.length + 1 ≤ ((cutU 62 s.data.toList).map fun z => z.length + 1).sum := by
    generalize cutU 62 s.data.toList = L at hz
    induction L with
    | nil => cases hz
    | cons y L ih =>
      simp only [List.map_cons, List.sum_cons]
      cases hz with
      | head => omega
      | tail _ h => have := ih h; omega
  rw [data_size] at h1
  have h3 : (⟨z.toArray⟩ : ByteArray).size = z.length := rfl
  omega
theorem cutG_le (s : ByteArray) : (cutG s).length ≤ s.size + 1 := by
  rw [cutG_len]
  have h1 := cut_sum 62 s.data.toList
  rw [data_size] at h1
  have h2 : ∀ L : List (List UInt8), L.length ≤ (L.map fun z => z.length + 1).sum := by
    intro L
    induction L with
    | nil => simp
    | cons y L ih => simp only [List.map_cons, List.sum_cons, List.length_cons]; omega
  have := h2 (cutU 62 s.data.toList)
  omega
def outG (s : ByteArray) (k : Nat) : List ByteArray := ((s.data.toList.take k).foldl (cutStep 62) ([], [])).1.map fun z => ⟨z.toArray⟩
def partG (s : ByteArray) (k : Nat) : ByteArray := ⟨((s.data.toList.take k).foldl (cutStep 62) ([], [])).2.toArray⟩
theorem outG_zero (s : ByteArray) : outG s 0 = [] := rfl
theorem partG_zero (s : ByteArray) : partG s 0 = ⟨#[]⟩ := rfl
theorem outG_end (s : ByteArray) : outG s s.size ++ [partG s s.size] = cutG s := by
  unfold outG partG cutG
  rw [show s.data.toList.take s.size = s.data.toList by rw [← data_size, List.take_length]]
  obtain ⟨x, t, h⟩ := cutU_ne 62 s.data.toList
  have := cut_fold 62 s.data.toList [] [] x t h
  rw [h]
  simp only [List.nil_append] at this
  rw [← this]
  simp
theorem foldG_succ (s : ByteArray) (k : Nat) (b : UInt8) (h : s.data.toList[k]? = some b) : (s.data.toList.take (k + 1)).foldl (cutStep 62) ([], []) = cutStep 62 ((s.data.toList.take k).foldl (cutStep 62) ([], [])) b := by
  rw [List.take_add_one, h, List.foldl_append]; rfl
theorem outG_comma (s : ByteArray) (k : Nat) (h : s.data.toList[k]? = some 62) : outG s (k + 1) = outG s k ++ [partG s k] ∧ partG s (k + 1) = ⟨#[]⟩ := by
  unfold outG partG
  rw [foldG_succ s k 62 h]
  unfold cutStep
  simp
theorem outG_other (s : ByteArray) (k : Nat) (b : UInt8) (h : s.data.toList[k]? = some b) (hb : b ≠ 62) : outG s (k + 1) = outG s k ∧ partG s (k + 1) = partG s k ++ ⟨#[b]⟩ := by
  unfold outG partG
  rw [foldG_succ s k b h]
  unfold cutStep
  rw [if_neg hb]
  refine ⟨rfl, ?_⟩
  apply ByteArray.ext
  simp
theorem partG_size (s : ByteArray) : ∀ k, (partG s k).size ≤ k ∧ (outG s k).length ≤ k
  | 0 => ⟨by rw [partG_zero]; exact Nat.le_refl 0, by rw [outG_zero]; exact Nat.le_refl 0⟩
  | k + 1 => by
    have ih := partG_size s k
    by_cases h : k < s.data.toList.length
    · have hk := List.getElem?_eq_getElem h
      by_cases hb : s.data.toList[k] = 62
      · rw [hb] at hk
        rw [(outG_comma s k hk).1, (outG_comma s k hk).2, List.length_append, List.length_singleton]
        have : (⟨#[]⟩ : ByteArray).size = 0 := rfl
        omega
      · rw [(outG_other s k _ hk hb).1, (outG_other s k _ hk hb).2, ByteArray.size_append]
        have : (⟨#[s.data.toList[k]]⟩ : ByteArray).size = 1 := rfl
        omega
    · have e : s.data.toList.take (k + 1) = s.data.toList.take k := by rw [List.take_of_length_le (by omega), List.take_of_length_le (by omega)]
      unfold partG outG at ih ⊢
      rw [e]
      omega
end Go.Proofs.YtnildbalaedlgaaDoor
