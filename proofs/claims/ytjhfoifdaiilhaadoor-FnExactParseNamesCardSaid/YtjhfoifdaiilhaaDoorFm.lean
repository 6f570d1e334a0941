/- Forms: plain mathematics. -/
import Derived.Test.YtjhfoifdaiilhaaDoorL2s
import Derived.Test.YtjhfoifdaiilhaaDoorSl
namespace Go.Proofs.YtjhfoifdaiilhaaDoor
set_option maxRecDepth 100000
open Go.RowKit M

/-- The i-th byte's number. -/
def bAt (s : ByteArray) (i : Nat) : Int := ((s.data.toList.getD i 0).toNat : Int)
theorem bAt_in (s : ByteArray) (i : Nat) (h : i < s.size) : (s[i].toNat : Int) = bAt s i := by
  unfold bAt
  have hl : i < s.data.toList.length := by simpa using h
  rw [List.getD_eq_getElem?_getD, List.getElem?_eq_getElem hl]
  rfl
def isFm (s : ByteArray) : Bool := l2S s.data.toList && decide ((s.size : Int) ≤ 8)
theorem isFm_size {s : ByteArray} (h : isFm s = true) : s.size ≤ 8 := by
  unfold isFm at h; simp at h; omega
/-- Whether there is a vowel at i. -/
def vowAt (s : ByteArray) (i : Int) : Bool := decide (0 ≤ i) && (decide (i < (s.size : Int)) && hasF (bAt s i.toNat) 0)
theorem vowAt_in (s : ByteArray) (i : Nat) (h : i < s.size) : vowAt s i = hasF (bAt s i) 0 := by
  unfold vowAt
  have h1 : decide ((0 : Int) ≤ (i : Int)) = true := by simp
  have h2 : decide ((i : Int) < (s.size : Int)) = true := by simp; omega
  rw [h1, h2, Bool.true_and, Bool.true_and, Int.toNat_natCast]
/-- The vowels among the first j bytes. -/
def cntV (s : ByteArray) (j : Nat) : Nat := ((List.range j).filter fun i => hasF (bAt s i) 0).length
theorem cntV_le (s : ByteArray) (j : Nat) : cntV s j ≤ j := Nat.le_trans (List.length_filter_le _ _) (by simp)
theorem cntV_yes (s : ByteArray) (j : Nat) (h : hasF (bAt s j) 0 = true) : cntV s (j + 1) = cntV s j + 1 := by
  unfold cntV; rw [List.range_succ, List.filter_append]; simp [h]
theorem cntV_no (s : ByteArray) (j : Nat) (h : hasF (bAt s j) 0 = false) : cntV s (j + 1) = cntV s j := by
  unfold cntV; rw [List.range_succ, List.filter_append]; simp [h]
/-- V for each vowel and C for each other byte, of the first j. -/
def skelL (s : ByteArray) (j : Nat) : List UInt8 := (List.range j).map fun i => if hasF (bAt s i) 0 then 86 else 67
theorem skelL_len (s : ByteArray) (j : Nat) : (skelL s j).length = j := by simp [skelL]
theorem skelL_yes (s : ByteArray) (j : Nat) (h : hasF (bAt s j) 0 = true) : skelL s (j + 1) = skelL s j ++ [86] := by
  unfold skelL; rw [List.range_succ, List.map_append]; simp [h]
theorem skelL_no (s : ByteArray) (j : Nat) (h : hasF (bAt s j) 0 = false) : skelL s (j + 1) = skelL s j ++ [67] := by
  unfold skelL; rw [List.range_succ, List.map_append]; simp [h]
/-- The first j bytes, backwards. -/
def revL (s : ByteArray) (j : Nat) : List UInt8 := (s.data.toList.take j).reverse
theorem revL_step (s : ByteArray) (j : Nat) (h : j < s.size) : revL s (j + 1) = s[j] :: revL s j := by
  unfold revL; rw [all_take s j h, List.reverse_append]; rfl
theorem revL_len (s : ByteArray) (j : Nat) (h : j ≤ s.size) : (revL s j).length = j := by
  unfold revL; rw [List.length_reverse, List.length_take]; simp; omega
theorem revL_all (s : ByteArray) : revL s s.size = s.data.toList.reverse := by
  unfold revL; rw [List.take_of_length_le (by simp)]
theorem extract_one (s : ByteArray) (i : Nat) (h : i < s.size) : s.extract i (i + 1) = ⟨#[s[i]]⟩ := by
  apply ByteArray.ext
  rw [ByteArray.data_extract]
  apply Array.ext
  · simp; have : i < s.data.size := h; omega
  · intro k hk _
    simp at hk
    have : k = 0 := by omega
    subst this
    simp
    rfl
theorem cat_first (a : UInt8) (l : List UInt8) : (⟨#[a]⟩ : ByteArray) ++ ⟨l.toArray⟩ = ⟨(a :: l).toArray⟩ := by
  apply ByteArray.ext
  simp
/-- The forms of n sounds. -/
def sndB (j : Nat) : ByteArray := ⟨#[byt (sndAt j)]⟩
def ofTo (o : List ByteArray) (k j : Nat) : List ByteArray := (o.take k).flatMap (fun x => (List.range 7).map fun i => x ++ sndB i) ++ (List.range j).map fun i => (o.getD k ByteArray.empty) ++ sndB i
theorem ofTo_step (o : List ByteArray) (k j : Nat) : ofTo o k (j + 1) = ofTo o k j ++ [(o.getD k ByteArray.empty) ++ sndB j] := by
  unfold ofTo; rw [show List.range (j + 1) = List.range j ++ [j] from List.range_succ, List.map_append, List.append_assoc]; rfl
theorem ofTo_next (o : List ByteArray) (k : Nat) (h : k < o.length) : ofTo o k 7 = ofTo o (k + 1) 0 := by
  unfold ofTo
  rw [List.take_add_one, List.getElem?_eq_getElem h, List.flatMap_append, List.getD_eq_getElem?_getD, List.getElem?_eq_getElem h]
  simp
def ofL : Nat → List ByteArray
  | 0 => [⟨#[]⟩]
  | n + 1 => (ofL n).flatMap fun x => (List.range 7).map fun i => x ++ sndB i
theorem ofTo_all (o : List ByteArray) : ofTo o o.length 0 = o.flatMap fun x => (List.range 7).map fun i => x ++ sndB i := by
  unfold ofTo; rw [List.take_length]; simp
def formsL (n : Int) : List ByteArray := if 0 ≤ n ∧ n ≤ 3 then ofL n.toNat else []
end Go.Proofs.YtjhfoifdaiilhaaDoor
