/- Neighbours and distances of forms: plain mathematics. -/
import Derived.Test.YtjajbkbocbodfaaDoorFm
namespace Go.Proofs.YtjajbkbocbodfaaDoor
open Go.RowKit M

theorem sndB_sz (j : Nat) : (sndB j).size = 1 := rfl
def hasB (l : List ByteArray) (x : ByteArray) : Bool := l.any fun y => y.toList == x.toList
def addN (l : List ByteArray) (x : ByteArray) : List ByteArray := if hasB l x then l else l ++ [x]
theorem addN_yes {l : List ByteArray} {x : ByteArray} (h : hasB l x = true) : addN l x = l := if_pos h
theorem addN_no {l : List ByteArray} {x : ByteArray} (h : hasB l x = false) : addN l x = l ++ [x] := if_neg (by simp [h])
theorem addN_len (l : List ByteArray) (x : ByteArray) : (addN l x).length ≤ l.length + 1 := by
  unfold addN; split
  · omega
  · simp
/-- A sound put in, put in the place of another; a sound taken away. -/
def insB (s : ByteArray) (i j : Nat) : ByteArray := s.extract 0 i ++ sndB j ++ s.extract i s.size
def subB (s : ByteArray) (i j : Nat) : ByteArray := s.extract 0 i ++ sndB j ++ s.extract (i + 1) s.size
def delB (s : ByteArray) (i : Nat) : ByteArray := s.extract 0 i ++ s.extract (i + 1) s.size
def nbSub (s : ByteArray) (i : Nat) (l : List ByteArray) (j : Nat) : List ByteArray :=
  if i < s.size then (if (subB s i j).toList == s.toList then l else addN l (subB s i j)) else l
def nbJ (s : ByteArray) (i : Nat) (l : List ByteArray) : Nat → List ByteArray
  | 0 => l
  | j + 1 => nbSub s i (addN (nbJ s i l j) (insB s i j)) j
def nbI (s : ByteArray) (i : Nat) (l : List ByteArray) : List ByteArray := if i < s.size then addN (nbJ s i l 7) (delB s i) else nbJ s i l 7
def nbTo (s : ByteArray) : Nat → List ByteArray
  | 0 => []
  | i + 1 => nbI s i (nbTo s i)
theorem nbSub_end {s : ByteArray} {i : Nat} (l : List ByteArray) (j : Nat) (h : ¬ i < s.size) : nbSub s i l j = l := if_neg h
theorem nbSub_same {s : ByteArray} {i : Nat} {l : List ByteArray} {j : Nat} (h : i < s.size) (he : ((subB s i j).toList == s.toList) = true) : nbSub s i l j = l := by
  unfold nbSub; rw [if_pos h, if_pos he]
theorem nbSub_has {s : ByteArray} {i : Nat} {l : List ByteArray} {j : Nat} (h : i < s.size) (he : ((subB s i j).toList == s.toList) = false) (hh : hasB l (subB s i j) = true) : nbSub s i l j = l := by
  unfold nbSub; rw [if_pos h, if_neg (by simp [he]), addN_yes hh]
theorem nbSub_new {s : ByteArray} {i : Nat} {l : List ByteArray} {j : Nat} (h : i < s.size) (he : ((subB s i j).toList == s.toList) = false) (hh : hasB l (subB s i j) = false) : nbSub s i l j = l ++ [subB s i j] := by
  unfold nbSub; rw [if_pos h, if_neg (by simp [he]), addN_no hh]
def nbL (s : ByteArray) : List ByteArray := if isFm s = true ∧ s.size < 8 then nbTo s (s.size + 1) else []
theorem nbSub_len (s : ByteArray) (i : Nat) (l : List ByteArray) (j : Nat) : (nbSub s i l j).length ≤ l.length + 1 := by
  unfold nbSub
  split
  · split
    · omega
    · exact addN_len _ _
  · omega
theorem nbJ_len (s : ByteArray) (i : Nat) (l : List ByteArray) (j : Nat) : (nbJ s i l j).length ≤ l.length + 2 * j := by
  induction j with
  | zero => simp [nbJ]
  | succ j ih =>
    have h1 := nbSub_len s i (addN (nbJ s i l j) (insB s i j)) j
    have h2 := addN_len (nbJ s i l j) (insB s i j)
    show (nbSub s i (addN (nbJ s i l j) (insB s i j)) j).length ≤ _
    omega
theorem nbI_len (s : ByteArray) (i : Nat) (l : List ByteArray) : (nbI s i l).length ≤ l.length + 15 := by
  have h1 := nbJ_len s i l 7
  have h2 := addN_len (nbJ s i l 7) (delB s i)
  unfold nbI
  split <;> omega
theorem nbTo_len (s : ByteArray) (i : Nat) : (nbTo s i).length ≤ 15 * i := by
  induction i with
  | zero => simp [nbTo]
  | succ i ih =>
    have := nbI_len s i (nbTo s i)
    show (nbI s i (nbTo s i)).length ≤ _
    omega
theorem nbL_len (s : ByteArray) : (nbL s).length ≤ 1000000 := by
  unfold nbL
  split
  · have := nbTo_len s (s.size + 1); omega
  · simp
/-- The distance of the first i bytes of one text and the first k of another. -/
def dst (a b : ByteArray) : Nat → Nat → Nat
  | 0, k => k
  | i + 1, 0 => i + 1
  | i + 1, k + 1 => min (min (dst a b i (k + 1)) (dst a b (i + 1) k) + 1) (if bAt a i = bAt b k then dst a b i k else dst a b i k + 1)
theorem dst_le (a b : ByteArray) : ∀ i k, dst a b i k ≤ i + k
  | 0, k => by simp [dst]
  | i + 1, 0 => by simp [dst]
  | i + 1, k + 1 => by
    have h1 := dst_le a b i (k + 1)
    have h2 := dst_le a b (i + 1) k
    have h3 := dst_le a b i k
    simp only [dst]
    split <;> omega
/-- A row of distances, its first j places. -/
def dRow (a b : ByteArray) (i j : Nat) : List Int := (List.range j).map fun k => (dst a b i k : Int)
theorem dRow_len (a b : ByteArray) (i j : Nat) : (dRow a b i j).length = j := by simp [dRow]
theorem dRow_step (a b : ByteArray) (i j : Nat) : dRow a b i (j + 1) = dRow a b i j ++ [(dst a b i j : Int)] := by
  unfold dRow; rw [List.range_succ, List.map_append]; rfl
theorem dRow_at (a b : ByteArray) (i j k : Nat) (h : k < j) : (dRow a b i j).getD k 0 = (dst a b i k : Int) := by
  unfold dRow; rw [List.getD_eq_getElem?_getD, List.getElem?_map, List.getElem?_range h]; rfl
def distV (a b : ByteArray) : Int := if isFm a = true ∧ isFm b = true then (dst a b a.size b.size : Int) else -1
end Go.Proofs.YtjajbkbocbodfaaDoor
