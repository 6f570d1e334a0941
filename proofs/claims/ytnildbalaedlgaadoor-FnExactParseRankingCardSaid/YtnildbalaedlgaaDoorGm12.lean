/- The text of a ranking: mathematics. -/
import Derived.Test.YtnildbalaedlgaaDoorM10
import Derived.Test.YtnildbalaedlgaaDoorRk12
import Derived.Lib.Join
namespace Go.Proofs.YtnildbalaedlgaaDoor
set_option maxRecDepth 100000
open Go.RowKit M
set_option linter.unusedVariables false
set_option linter.unusedSimpArgs false

def joinG (l : List ByteArray) : Nat → ByteArray
  | 0 => ⟨#[]⟩
  | k + 1 => (if 0 < k then joinG l k ++ ⟨#[62]⟩ else joinG l k) ++ l.getD k ByteArray.empty
theorem joinG_take (l : List ByteArray) : ∀ k, k ≤ l.length → (joinG l k).data.toList = Lib.join ((l.take k).map (·.data.toList)) [62]
  | 0, _ => rfl
  | k + 1, hk => by
    have ih := joinG_take l k (by omega)
    have hx := List.getElem?_eq_getElem (l := l) (i := k) (by omega)
    have hg : l.getD k ByteArray.empty = l[k] := by rw [List.getD_eq_getElem?_getD, hx]; rfl
    unfold joinG
    rw [hg]
    cases k with
    | zero =>
      rw [if_neg (by omega)]
      have e : l.take 1 = [l[0]] := by
        cases l with
        | nil => simp at hk
        | cons a t => rfl
      rw [e, List.map_cons, List.map_nil, Lib.join_one]
      show (joinG l 0 ++ l[0]).data.toList = _
      simp [joinG]
    | succ k =>
      rw [if_pos (by omega)]
      obtain ⟨a, t, rfl⟩ : ∃ a t, l = a :: t := by
        cases l with
        | nil => simp at hk
        | cons a t => exact ⟨a, t, rfl⟩
      rw [List.take_succ_cons, List.map_cons, Lib.join_cons] at ih ⊢
      have h2 : (t.map (·.data.toList))[k]? = some (t[k]'(by simp at hk; omega)).data.toList := by rw [List.getElem?_map, List.getElem?_eq_getElem (by simp at hk; omega)]; rfl
      have h3 := Lib.joinTail_take_succ [62] (t.map (·.data.toList)) k _ h2
      rw [List.map_take, h3]
      rw [List.map_take] at ih
      simp only [ByteArray.data_append, Array.toList_append, ih]
      simp
theorem joinG_all (l : List ByteArray) : (⟨(Lib.join (l.map (·.data.toList)) [62]).toArray⟩ : ByteArray) = joinG l l.length := by
  have h := joinG_take l l.length (Nat.le_refl _)
  rw [List.take_length] at h
  rw [← h]
theorem joinG_first (l : List ByteArray) (x : ByteArray) (h : l[0]? = some x) : joinG l 1 = ⟨#[]⟩ ++ x := by
  unfold joinG
  rw [if_neg (Nat.lt_irrefl 0), List.getD_eq_getElem?_getD, h]; rfl
theorem joinG_next (l : List ByteArray) (k : Nat) (x : ByteArray) (hk : 0 < k) (h : l[k]? = some x) : joinG l (k + 1) = joinG l k ++ ⟨#[62]⟩ ++ x := by
  conv => lhs; unfold joinG
  rw [if_pos hk, List.getD_eq_getElem?_getD, h]; rfl
theorem joinG_size {l : List ByteArray} (h : ∀ x ∈ l, x.size ≤ 7) : ∀ k, k ≤ l.length → (joinG l k).size ≤ 8 * k
  | 0, _ => Nat.le_refl 0
  | k + 1, hk => by
    have ih := joinG_size h k (by omega)
    have hx := List.getElem?_eq_getElem (l := l) (i := k) (by omega)
    have hs := h _ (List.getElem_mem (by omega : k < l.length))
    have hg : l.getD k ByteArray.empty = l[k] := by rw [List.getD_eq_getElem?_getD, hx]; rfl
    unfold joinG
    rw [ByteArray.size_append, hg]
    split
    · rw [ByteArray.size_append, show (⟨#[62]⟩ : ByteArray).size = 1 from rfl]; omega
    · omega
/-- The names in the order of a ranking. -/
def rkN (l : List ByteArray) (r : List Int) : List ByteArray := r.map fun k => l.getD k.toNat ByteArray.empty
theorem rkN_len (l : List ByteArray) (r : List Int) : (rkN l r).length = r.length := by simp [rkN]
theorem rkN_at {l : List ByteArray} {r : List Int} {i j : Nat} {x : ByteArray} (hi : r[i]? = some (j : Int)) (hx : l[j]? = some x) : (rkN l r)[i]? = some x := by
  unfold rkN
  rw [List.getElem?_map, hi]
  simp [List.getD_eq_getElem?_getD, hx]
def fmtRk (l : List ByteArray) (r : List Int) : ByteArray := if areC l && rkB r l.length then joinG (rkN l r) r.length else ⟨#[]⟩
theorem rkN_place {l : List ByteArray} {r : List Int} (h : rkB r l.length = true) {i : Nat} (hi : i < r.length) : ∃ j x, r[i]? = some ((j : Nat) : Int) ∧ j < l.length ∧ l[j]? = some x ∧ (rkN l r)[i]? = some x := by
  have hk := List.getElem?_eq_getElem hi
  obtain ⟨h1, h2⟩ := rk_at h hk
  have hj : r[i]? = some (((r[i]).toNat : Nat) : Int) := by rw [hk, Int.toNat_of_nonneg h1]
  exact ⟨_, _, hj, by omega, List.getElem?_eq_getElem (by omega), rkN_at hj (List.getElem?_eq_getElem (by omega))⟩
theorem rkN_size {l : List ByteArray} {r : List Int} (ha : areC l = true) (h : rkB r l.length = true) : ∀ x ∈ rkN l r, x.size ≤ 7 := fun x hx => by
  obtain ⟨i, hi⟩ := List.mem_iff_getElem?.1 hx
  have hil := (List.getElem?_eq_some_iff.1 hi).1
  rw [rkN_len] at hil
  obtain ⟨j, y, _, _, hy, hy2⟩ := rkN_place h hil
  rw [hi] at hy2
  cases hy2
  exact name_size (areC_mem ha hy).1
end Go.Proofs.YtnildbalaedlgaaDoor
