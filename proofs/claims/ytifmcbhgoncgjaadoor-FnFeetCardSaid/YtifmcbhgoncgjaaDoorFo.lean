/- Feet: plain mathematics. -/
import Derived.Test.YtifmcbhgoncgjaaDoorTrFooting
namespace Go.Proofs.YtifmcbhgoncgjaaDoor
open Go.RowKit
set_option linter.unusedVariables false

/-- A foot that begins at 'at' or later, within n syllables. -/
def okFoot (n at' : Int) (x : DFoot) : Bool := decide (at' ≤ x.From) && decide (1 ≤ x.Size) && decide (x.Size ≤ 2) && decide (x.From + x.Size ≤ n) && decide (0 ≤ x.Head) && decide (x.Head ≤ x.Size - 1)
def okFeet (n : Int) : Int → List DFoot → Bool
  | _, [] => true
  | a, x :: l => okFoot n a x && okFeet n (x.From + x.Size) l
/-- Where the feet end. -/
def endFeet : Int → List DFoot → Int
  | a, [] => a
  | _, x :: l => endFeet (x.From + x.Size) l
def okSyls (n : Int) : Bool := decide (1 ≤ n) && decide (n ≤ 6)
def isFt (f : DFooting) : Bool := okSyls f.Syllables && okFeet f.Syllables 0 f.Feet && decide (0 ≤ f.Main) && decide (f.Main ≤ (f.Feet.length : Int) - 1)
theorem okFoot_iff {n a : Int} {x : DFoot} : okFoot n a x = true ↔ a ≤ x.From ∧ 1 ≤ x.Size ∧ x.Size ≤ 2 ∧ x.From + x.Size ≤ n ∧ 0 ≤ x.Head ∧ x.Head ≤ x.Size - 1 := by
  simp [okFoot, and_assoc]
theorem okFeet_add (n : Int) : ∀ (l m : List DFoot) (a : Int), okFeet n a (l ++ m) = (okFeet n a l && okFeet n (endFeet a l) m)
  | [], m, a => by simp [okFeet, endFeet]
  | x :: l, m, a => by simp [okFeet, endFeet, okFeet_add n l m, Bool.and_assoc]
theorem endFeet_add : ∀ (l : List DFoot) (x : DFoot) (a : Int), endFeet a (l ++ [x]) = x.From + x.Size
  | [], x, a => rfl
  | y :: l, x, a => by simp [endFeet, endFeet_add l x]
theorem take_succ_of {α : Type} {l : List α} {k : Nat} {x : α} (h : l[k]? = some x) : l.take (k + 1) = l.take k ++ [x] := by rw [List.take_add_one, h]; rfl
/-- The first k feet are well, and the k-th is not: no footing. -/
theorem okFeet_stop {n : Int} {l : List DFoot} {k : Nat} {x : DFoot} (h : l[k]? = some x) (hx : okFoot n (endFeet 0 (l.take k)) x = false) : okFeet n 0 l = false := by
  have e : l = (l.take k ++ [x]) ++ l.drop (k + 1) := by
    rw [← take_succ_of h, List.take_append_drop]
  rw [e, okFeet_add, okFeet_add]
  simp [okFeet, hx]
theorem okFeet_step {n : Int} {l : List DFoot} {k : Nat} {x : DFoot} (h : l[k]? = some x) (hk : okFeet n 0 (l.take k) = true) (hx : okFoot n (endFeet 0 (l.take k)) x = true) : okFeet n 0 (l.take (k + 1)) = true ∧ endFeet 0 (l.take (k + 1)) = x.From + x.Size := by
  rw [take_succ_of h, okFeet_add, endFeet_add]
  simp [okFeet, hx, hk]
/-- What the feet of a footing are. -/
theorem okFeet_at {n : Int} : ∀ {l : List DFoot} {a : Int} {k : Nat} {x : DFoot}, okFeet n a l = true → 0 ≤ a → l[k]? = some x → 0 ≤ x.From ∧ 1 ≤ x.Size ∧ x.Size ≤ 2 ∧ x.From + x.Size ≤ n ∧ 0 ≤ x.Head ∧ x.Head ≤ x.Size - 1
  | [], a, k, x, h, h0, hk => by simp at hk
  | y :: l, a, 0, x, h, h0, hk => by
    simp at hk; subst hk
    simp only [okFeet, Bool.and_eq_true] at h
    have := okFoot_iff.1 h.1
    omega
  | y :: l, a, k + 1, x, h, h0, hk => by
    simp only [okFeet, Bool.and_eq_true] at h
    have h1 := okFoot_iff.1 h.1
    exact okFeet_at (k := k) h.2 (by omega) (by simpa using hk)
theorem isFt_iff {f : DFooting} : isFt f = true ↔ 1 ≤ f.Syllables ∧ f.Syllables ≤ 6 ∧ okFeet f.Syllables 0 f.Feet = true ∧ 0 ≤ f.Main ∧ f.Main ≤ (f.Feet.length : Int) - 1 := by
  simp [isFt, okSyls, and_assoc]
theorem isFt_no_syl {f : DFooting} (h : ¬ (1 ≤ f.Syllables ∧ f.Syllables ≤ 6)) : isFt f = false := by
  cases hb : isFt f with
  | false => rfl
  | true => exact absurd ⟨(isFt_iff.1 hb).1, (isFt_iff.1 hb).2.1⟩ h
theorem isFt_no_feet {f : DFooting} (h : okFeet f.Syllables 0 f.Feet = false) : isFt f = false := by
  cases hb : isFt f with
  | false => rfl
  | true => rw [(isFt_iff.1 hb).2.2.1] at h; cases h
/-- Stresses: after k feet. -/
def headOf (x : DFoot) : Nat := (x.From + x.Head).toNat
def strTo (f : DFooting) : Nat → List Int
  | 0 => List.replicate f.Syllables.toNat 0
  | k + 1 => match f.Feet[k]? with
    | some x => (strTo f k).set (headOf x) (if (k : Int) = f.Main then 2 else 1)
    | none => strTo f k
def strL (f : DFooting) : List Int := if isFt f = true then strTo f f.Feet.length else []
theorem strTo_len (f : DFooting) : ∀ k, (strTo f k).length = f.Syllables.toNat
  | 0 => by simp [strTo]
  | k + 1 => by
    rw [strTo]
    split
    · rw [List.length_set, strTo_len f k]
    · exact strTo_len f k
theorem strTo_step {f : DFooting} {k : Nat} {x : DFoot} (h : f.Feet[k]? = some x) : strTo f (k + 1) = (strTo f k).set (headOf x) (if (k : Int) = f.Main then 2 else 1) := by rw [strTo, h]
theorem cntRow_foot (l : List DFoot) : cntRow rFoot l = 3 * l.length := by
  induction l with
  | nil => rfl
  | cons x l ih => unfold cntRow at *; rw [List.map_cons, List.sum_cons, ih, List.length_cons, rFoot_cnt]; omega
theorem cntFoot_le {l : List DFooting} (h : ∀ f ∈ l, f.Feet.length ≤ 4) : cntRow rFooting l ≤ 14 * l.length := by
  induction l with
  | nil => simp [cntRow]
  | cons x l ih =>
    have h1 := ih (fun f hf => h f (List.mem_cons_of_mem _ hf))
    have h2 := h x (List.mem_cons_self ..)
    unfold cntRow at h1 ⊢
    rw [List.map_cons, List.sum_cons, List.length_cons, rFooting_cnt, cntRow_foot]
    omega
end Go.Proofs.YtifmcbhgoncgjaaDoor
