/- What an iterator over the neighbours gives, with those that come twice: plain mathematics. -/
import Derived.Test.YtjajbkbocbodfaaDoorNb
namespace Go.Proofs.YtjajbkbocbodfaaDoor
open Go.RowKit M

def itS (s : ByteArray) (i j : Nat) : List ByteArray := if i < s.size ∧ ¬ bAt s i = sndAt j then [subB s i j] else []
/-- At a place: the first j sounds. -/
def itJ (s : ByteArray) (i : Nat) : Nat → List ByteArray
  | 0 => []
  | j + 1 => (itJ s i j ++ [insB s i j]) ++ itS s i j
def itI (s : ByteArray) (i : Nat) : List ByteArray := if i < s.size then itJ s i 7 ++ [delB s i] else itJ s i 7
def itTo (s : ByteArray) : Nat → List ByteArray
  | 0 => []
  | i + 1 => itTo s i ++ itI s i
theorem itS_yes {s : ByteArray} {i j : Nat} (h : i < s.size) (hn : ¬ bAt s i = sndAt j) : itS s i j = [subB s i j] := if_pos ⟨h, hn⟩
theorem itS_end {s : ByteArray} {i : Nat} (j : Nat) (h : ¬ i < s.size) : itS s i j = [] := if_neg fun c => h c.1
theorem itS_same {s : ByteArray} {i j : Nat} (h : bAt s i = sndAt j) : itS s i j = [] := if_neg fun c => c.2 h
theorem itS_len (s : ByteArray) (i j : Nat) : (itS s i j).length ≤ 1 := by unfold itS; split <;> simp
theorem itJ_len (s : ByteArray) (i j : Nat) : (itJ s i j).length ≤ 2 * j := by
  induction j with
  | zero => simp [itJ]
  | succ j ih =>
    have := itS_len s i j
    rw [itJ, List.length_append, List.length_append, List.length_singleton]; omega
theorem itI_len (s : ByteArray) (i : Nat) : (itI s i).length ≤ 15 := by
  have := itJ_len s i 7
  unfold itI
  split
  · rw [List.length_append, List.length_singleton]; omega
  · omega
theorem itTo_len (s : ByteArray) (k : Nat) : (itTo s k).length ≤ 15 * k := by
  induction k with
  | zero => simp [itTo]
  | succ k ih =>
    have := itI_len s k
    rw [itTo, List.length_append]; omega
/-- Each once. -/
def ded (l : List ByteArray) : List ByteArray := l.foldl addN []
theorem ded_add (l : List ByteArray) (x : ByteArray) : ded (l ++ [x]) = addN (ded l) x := by simp [ded]
theorem ded_yes {l : List ByteArray} {x : ByteArray} (h : hasB (ded l) x = true) : ded (l ++ [x]) = ded l := by rw [ded_add, addN_yes h]
theorem ded_no {l : List ByteArray} {x : ByteArray} (h : hasB (ded l) x = false) : ded (l ++ [x]) = ded l ++ [x] := by rw [ded_add, addN_no h]
theorem ded_len (l : List ByteArray) : (ded l).length ≤ l.length := by
  have key : ∀ (l a : List ByteArray), (l.foldl addN a).length ≤ a.length + l.length := by
    intro l
    induction l with
    | nil => intro a; simp
    | cons x l ih =>
      intro a
      have := ih (addN a x)
      have h2 := addN_len a x
      rw [List.foldl_cons, List.length_cons]; omega
  have := key l []
  simpa [ded] using this
theorem sound_byte (j : Nat) (h : j < 7) : ((byt (sndAt j)).toNat : Int) = sndAt j := by
  rcases (show j = 0 ∨ j = 1 ∨ j = 2 ∨ j = 3 ∨ j = 4 ∨ j = 5 ∨ j = 6 by omega) with rfl | rfl | rfl | rfl | rfl | rfl | rfl <;> rfl
theorem sub_list (s : ByteArray) (i j : Nat) (h : i < s.size) : (subB s i j).data.toList = s.data.toList.set i (byt (sndAt j)) := by
  have hl : i < s.data.toList.length := by simpa using h
  rw [List.set_eq_take_append_cons_drop, if_pos hl]
  unfold subB sndB
  simp [ByteArray.data_extract, ByteArray.data_append]
  exact List.take_of_length_le (by simp)
theorem set_same (l : List UInt8) (i : Nat) (x : UInt8) (h : i < l.length) : l.set i x = l ↔ l.getD i 0 = x := by
  rw [List.getD_eq_getElem?_getD, List.getElem?_eq_getElem h]
  constructor
  · intro e
    have h1 : (l.set i x)[i]? = some x := List.getElem?_set_self h
    rw [e, List.getElem?_eq_getElem h] at h1
    simpa using h1
  · intro e
    apply List.ext_getElem?
    intro k
    by_cases hk : i = k
    · subst hk
      rw [List.getElem?_set_self h, List.getElem?_eq_getElem h, ← e]; rfl
    · rw [List.getElem?_set_ne hk]
theorem sub_same (s : ByteArray) (i j : Nat) (h : i < s.size) (hj : j < 7) : ((subB s i j).toList == s.toList) = decide (bAt s i = sndAt j) := by
  have hl : i < s.data.toList.length := by simpa using h
  have e1 : (subB s i j).toList = s.toList ↔ (subB s i j).data.toList = s.data.toList := by
    rw [Lib.toList_data, Lib.toList_data]
  have e2 : bAt s i = sndAt j ↔ s.data.toList.getD i 0 = byt (sndAt j) := by
    unfold bAt
    constructor
    · intro e
      rw [← sound_byte j hj] at e
      exact UInt8.toNat_inj.1 (by omega)
    · intro e; rw [e, sound_byte j hj]
  rw [Bool.eq_iff_iff, beq_iff_eq, decide_eq_true_iff, e1, e2, sub_list s i j h, set_same _ _ _ hl]
theorem ded_J (s : ByteArray) (i : Nat) (p : List ByteArray) : ∀ j, j ≤ 7 → ded (p ++ itJ s i j) = nbJ s i (ded p) j
  | 0, _ => by simp [itJ, nbJ]
  | j + 1, h => by
    have ih := ded_J s i p j (by omega)
    rw [itJ, nbJ, ← List.append_assoc, ← List.append_assoc]
    by_cases hi : i < s.size
    · have hs := sub_same s i j hi (by omega)
      by_cases he : bAt s i = sndAt j
      · rw [itS_same he, List.append_nil, ded_add, ih, nbSub_same hi (by rw [hs]; simp [he])]
      · rw [itS_yes hi he, ded_add, ded_add, ih]
        unfold nbSub
        rw [if_pos hi, if_neg (by rw [hs]; simp [he])]
    · rw [itS_end j hi, List.append_nil, ded_add, ih, nbSub_end _ _ hi]
theorem ded_I (s : ByteArray) (i : Nat) (p : List ByteArray) : ded (p ++ itI s i) = nbI s i (ded p) := by
  unfold itI nbI
  split
  · rw [← List.append_assoc, ded_add, ded_J s i p 7 (by omega)]
  · rw [ded_J s i p 7 (by omega)]
theorem ded_To (s : ByteArray) (k : Nat) : ded (itTo s k) = nbTo s k := by
  induction k with
  | zero => simp [itTo, nbTo, ded]
  | succ k ih => rw [itTo, nbTo, ded_I, ih]
end Go.Proofs.YtjajbkbocbodfaaDoor
