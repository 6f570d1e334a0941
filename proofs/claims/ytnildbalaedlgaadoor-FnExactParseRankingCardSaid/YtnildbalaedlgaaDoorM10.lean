/- Names of constraints: plain mathematics: the ten names, rows of names, their text. -/
import Derived.Test.YtnildbalaedlgaaDoorRow
namespace Go.Proofs.YtnildbalaedlgaaDoor
set_option maxRecDepth 100000
open Go.RowKit M

def hasB (l : List ByteArray) (x : ByteArray) : Bool := l.any fun y => decide (y = x)
theorem hasB_nil (x : ByteArray) : hasB [] x = false := rfl
theorem hasB_yes {l : List ByteArray} {k : Nat} {x : ByteArray} (h : l[k]? = some x) : hasB l x = true := by
  unfold hasB; rw [List.any_eq_true]; exact ⟨x, List.mem_of_getElem? h, by simp⟩
theorem hasB_no {l : List ByteArray} {x : ByteArray} (h : ∀ (j : Nat) (y : ByteArray), l[j]? = some y → ¬ y = x) : hasB l x = false := by
  unfold hasB; rw [List.any_eq_false]
  intro y hy
  obtain ⟨j, hj, rfl⟩ := List.getElem_of_mem hy
  have := h j _ (List.getElem?_eq_getElem hj)
  simpa using this
def namesB : List ByteArray := [⟨#[111, 110, 115, 101, 116]⟩, ⟨#[110, 111, 99, 111, 100, 97]⟩, ⟨#[99, 108, 117, 115, 116, 101, 114]⟩, ⟨#[118, 111, 105, 99, 101]⟩, ⟨#[102, 105, 110, 97, 108]⟩, ⟨#[110, 97, 115, 97, 108]⟩, ⟨#[109, 97, 120]⟩, ⟨#[100, 101, 112]⟩, ⟨#[105, 100, 101, 110, 116]⟩, ⟨#[99, 111, 110, 116, 105, 103]⟩]
theorem namesB_len : namesB.length = 10 := rfl
def isMk (x : ByteArray) : Bool := hasB (namesB.take 6) x
/-- The j-th name of the row is one of the ten and none of those ahead of it. -/
def nmAt (l : List ByteArray) (j : Nat) : Bool := match l[j]? with
  | some x => hasB namesB x && !hasB (l.take j) x
  | none => true
def areC (l : List ByteArray) : Bool := (List.range l.length).all (nmAt l) && (decide (1 ≤ (l.length : Int)) && decide ((l.length : Int) ≤ 5))
theorem areC_bad {l : List ByteArray} {k : Nat} {x : ByteArray} (h : l[k]? = some x) (hb : hasB namesB x = false ∨ hasB (l.take k) x = true) : areC l = false := by
  have hk := (List.getElem?_eq_some_iff.1 h).1
  unfold areC
  have : (List.range l.length).all (nmAt l) = false := by
    rw [List.all_eq_false]
    refine ⟨k, List.mem_range.2 hk, ?_⟩
    unfold nmAt
    rw [h]
    rcases hb with hb | hb <;> simp [hb]
  rw [this]; rfl
theorem areC_good {l : List ByteArray} (h : ∀ (k : Nat) (x : ByteArray), l[k]? = some x → hasB namesB x = true ∧ hasB (l.take k) x = false) : areC l = (decide (1 ≤ (l.length : Int)) && decide ((l.length : Int) ≤ 5)) := by
  unfold areC
  have : (List.range l.length).all (nmAt l) = true := by
    rw [List.all_eq_true]
    intro k hk
    have hk := List.mem_range.1 hk
    have hx := List.getElem?_eq_getElem hk
    obtain ⟨h1, h2⟩ := h k _ hx
    unfold nmAt
    rw [hx]
    simp [h1, h2]
  rw [this, Bool.true_and]
theorem areC_len {l : List ByteArray} (h : areC l = true) : 1 ≤ l.length ∧ l.length ≤ 5 := by
  unfold areC at h
  simp only [Bool.and_eq_true, decide_eq_true_eq] at h
  omega
theorem areC_mem {l : List ByteArray} (h : areC l = true) {k : Nat} {x : ByteArray} (hx : l[k]? = some x) : hasB namesB x = true ∧ hasB (l.take k) x = false := by
  cases h1 : hasB namesB x with
  | false => rw [areC_bad hx (.inl h1)] at h; cases h
  | true =>
    cases h2 : hasB (l.take k) x with
    | true => rw [areC_bad hx (.inr h2)] at h; cases h
    | false => exact ⟨rfl, rfl⟩
/-- A name is short. -/
theorem name_size {x : ByteArray} (h : hasB namesB x = true) : x.size ≤ 7 := by
  unfold hasB at h
  rw [List.any_eq_true] at h
  obtain ⟨y, hy, he⟩ := h
  obtain rfl : y = x := by simpa using he
  simp only [namesB, List.mem_cons, List.mem_nil_iff, or_false] at hy
  rcases hy with rfl | rfl | rfl | rfl | rfl | rfl | rfl | rfl | rfl | rfl <;> decide
/-- The first k names, a comma between. -/
def joinN (l : List ByteArray) : Nat → ByteArray
  | 0 => ⟨#[]⟩
  | k + 1 => (if 0 < k then joinN l k ++ ⟨#[44]⟩ else joinN l k) ++ l.getD k ByteArray.empty
theorem joinN_size {l : List ByteArray} (h : areC l = true) : ∀ k, k ≤ l.length → (joinN l k).size ≤ 8 * k
  | 0, _ => Nat.le_refl 0
  | k + 1, hk => by
    have ih := joinN_size h k (by omega)
    have hx := List.getElem?_eq_getElem (l := l) (i := k) (by omega)
    have hs := name_size (areC_mem h hx).1
    have hg : l.getD k ByteArray.empty = l[k] := by rw [List.getD_eq_getElem?_getD, hx]; rfl
    unfold joinN
    rw [ByteArray.size_append, hg]
    split
    · rw [ByteArray.size_append, show (⟨#[44]⟩ : ByteArray).size = 1 from rfl]; omega
    · omega
def fmtN (l : List ByteArray) : ByteArray := if areC l then joinN l l.length else ⟨#[]⟩
end Go.Proofs.YtnildbalaedlgaaDoor
