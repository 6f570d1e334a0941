/- Rows of syllables: what they are, what reads them. -/
import Derived.Test.YtjajbkbocbodfaaDoorRet
import Derived.Test.YtjajbkbocbodfaaDoorMath
import Derived.Lib.Hide
import Derived.Laws.IdiomStrings
import Derived.Lib.Strings
import Derived.Laws.Rows
import Derived.Maps.AppendAt
import Derived.BigQuiet
namespace Go.Proofs.YtjajbkbocbodfaaDoor
open Go.RowKit M

theorem below_dN {B : Nat} {w w' : World} (h : Below B w w') (n : Nat) : Below B w (w'.drewN n) := ⟨h.os, h.tape, h.output, h.size, h.block⟩
structure Syl where
  o : List UInt8
  n : List UInt8
  c : List UInt8
def syZ : Syl := ⟨[], [], []⟩
/-- What a syllable's parts are, one behind the other. -/
def sylB (x : Syl) : List UInt8 := x.o ++ x.n ++ x.c
def joinL (l : List Syl) : List UInt8 := l.flatMap sylB
theorem joinL_add (l : List Syl) (x : Syl) : joinL (l ++ [x]) = joinL l ++ sylB x := by simp [joinL]
def bs (l : List UInt8) : ByteArray := ⟨l.toArray⟩
theorem bs_size (l : List UInt8) : (bs l).size = l.length := by simp [bs, ByteArray.size]
theorem bs_self (b : ByteArray) : bs b.data.toList = b := by unfold bs; rfl
theorem bs_add (a b : List UInt8) : bs a ++ bs b = bs (a ++ b) := by
  apply ByteArray.ext
  simp [bs]
theorem bs_list (l : List UInt8) : (bs l).toList = l := by rw [Lib.toList_data]; simp [bs]
theorem bs_inj {a b : List UInt8} (h : bs a = bs b) : a = b := by rw [← bs_list a, ← bs_list b, h]
/-- The text up to the k-th syllable: joined; with full stops. -/
def joinK (l : List Syl) : Nat → List UInt8
  | 0 => []
  | k + 1 => joinK l k ++ sylB (l.getD k syZ)
def fmtK (l : List Syl) : Nat → List UInt8
  | 0 => []
  | k + 1 => (if k = 0 then [] else fmtK l k ++ [46]) ++ sylB (l.getD k syZ)
theorem joinK_take (l : List Syl) : ∀ k, k ≤ l.length → joinK l k = joinL (l.take k)
  | 0, _ => by simp [joinK, joinL]
  | k + 1, h => by
    rw [joinK, joinK_take l k (by omega), List.take_add_one, List.getElem?_eq_getElem (by omega), List.getD_eq_getElem?_getD, List.getElem?_eq_getElem (by omega)]
    exact (joinL_add _ _).symm
theorem joinK_all (l : List Syl) : joinK l l.length = joinL l := by rw [joinK_take l _ (Nat.le_refl _), List.take_length]
theorem fmtK_first (l : List Syl) : fmtK l 1 = sylB (l.getD 0 syZ) := by simp [fmtK]
theorem fmtK_next (l : List Syl) (k : Nat) (h : 0 < k) : fmtK l (k + 1) = fmtK l k ++ [46] ++ sylB (l.getD k syZ) := by rw [fmtK, if_neg (by omega)]
theorem fmtK_len (l : List Syl) (k : Nat) : (fmtK l k).length ≤ (joinK l k).length + k := by
  induction k with
  | zero => simp [fmtK]
  | succ k ih =>
    by_cases h : k = 0
    · subst h; simp [fmtK, joinK]
    · rw [fmtK_next l k (by omega), joinK]
      simp only [List.length_append, List.length_singleton]
      omega
theorem joinK_mono (l : List Syl) (k : Nat) : (joinK l k).length ≤ (joinK l (k + 1)).length := by rw [joinK, List.length_append]; omega
theorem joinK_le (l : List Syl) : ∀ d k, (joinK l k).length ≤ (joinK l (k + d)).length
  | 0, _ => Nat.le_refl _
  | d + 1, k => Nat.le_trans (joinK_le l d k) (joinK_mono l (k + d))
theorem joinK_bound (l : List Syl) (k : Nat) (h : k ≤ l.length) : (joinK l k).length ≤ (joinL l).length := by
  have := joinK_le l (l.length - k) k
  rw [show k + (l.length - k) = l.length by omega, joinK_all] at this
  exact this
theorem sylB_len (x : Syl) : (sylB x).length = x.o.length + x.n.length + x.c.length := by simp [sylB]; omega
/-- A syllable as a value; as cells. -/
def sylV (x : Syl) : Value := .agg #[.string (bs x.o), .string (bs x.n), .string (bs x.c)]
def cells3 (x : Syl) : List Value := [.string (bs x.o), .string (bs x.n), .string (bs x.c)]
def cellsY (l : List Syl) : List Value := l.flatMap cells3
theorem cellsY_len (l : List Syl) : (cellsY l).length = l.length * 3 := by
  induction l with
  | nil => rfl
  | cons x l ih => unfold cellsY at ih ⊢; rw [List.flatMap_cons, List.length_append, ih, List.length_cons, show (cells3 x).length = 3 from rfl]; omega
theorem cellsY_append (a b : List Syl) : cellsY (a ++ b) = cellsY a ++ cellsY b := by simp [cellsY]
theorem cellsY_at (l : List Syl) : ∀ k, k < l.length → (cellsY l)[k * 3]? = some (.string (bs (l.getD k syZ).o)) ∧ (cellsY l)[k * 3 + 1]? = some (.string (bs (l.getD k syZ).n)) ∧ (cellsY l)[k * 3 + 2]? = some (.string (bs (l.getD k syZ).c)) := by
  induction l with
  | nil => intro k h; simp at h
  | cons x l ih =>
    intro k h
    have e : cellsY (x :: l) = cells3 x ++ cellsY l := by unfold cellsY; rw [List.flatMap_cons]
    have h3 : (cells3 x).length = 3 := rfl
    rw [e]
    cases k with
    | zero => exact ⟨rfl, rfl, rfl⟩
    | succ k =>
      obtain ⟨i1, i2, i3⟩ := ih k (by simpa using h)
      have g : (x :: l).getD (k + 1) syZ = l.getD k syZ := by simp
      rw [g, List.getElem?_append_right (by omega), List.getElem?_append_right (by omega), List.getElem?_append_right (by omega), h3,
        show (k + 1) * 3 - 3 = k * 3 by omega, show (k + 1) * 3 + 1 - 3 = k * 3 + 1 by omega, show (k + 1) * 3 + 2 - 3 = k * 3 + 2 by omega]
      exact ⟨i1, i2, i3⟩
/-- A row that can be read, wherever it lies. -/
def YRow (w : World) (v : Value) (l : List Syl) : Prop :=
  ∃ A cap, v = .slice A l.length cap ∧ ∀ k, k < l.length → ∃ g off, A = some ⟨g, off, none⟩ ∧
    w.cell? ⟨g, off + k * 3, none⟩ = some (.string (bs (l.getD k syZ).o)) ∧ w.cell? ⟨g, off + k * 3 + 1, none⟩ = some (.string (bs (l.getD k syZ).n)) ∧ w.cell? ⟨g, off + k * 3 + 2, none⟩ = some (.string (bs (l.getD k syZ).c))
theorem syl_read {w : World} {base : Nat} {v : Value} {l : List Syl} (h : w.ownsRow base 38 3 v l.length (cellsY l)) :
    ∃ A cap, v = .slice A l.length cap ∧ ∀ k, k < l.length → ∃ g, A = some ⟨g, 0, none⟩ ∧
      w.cell? ⟨g, k * 3, none⟩ = some (.string (bs (l.getD k syZ).o)) ∧ w.cell? ⟨g, k * 3 + 1, none⟩ = some (.string (bs (l.getD k syZ).n)) ∧ w.cell? ⟨g, k * 3 + 2, none⟩ = some (.string (bs (l.getD k syZ).c)) := by
  have hh := h
  rcases h.2 with ⟨rfl, hn⟩ | ⟨g, cap, cur, rfl, _⟩
  · exact ⟨none, 0, by rw [hn], fun k hk => by omega⟩
  · refine ⟨some ⟨g, 0, none⟩, cap, rfl, fun k hk => ⟨g, rfl, ?_⟩⟩
    obtain ⟨h1, h2, h3⟩ := cellsY_at l k hk
    rw [hh.cellAt (k * 3) (by omega), hh.cellAt (k * 3 + 1) (by omega), hh.cellAt (k * 3 + 2) (by omega)]
    exact ⟨h1, h2, h3⟩
end Go.Proofs.YtjajbkbocbodfaaDoor
