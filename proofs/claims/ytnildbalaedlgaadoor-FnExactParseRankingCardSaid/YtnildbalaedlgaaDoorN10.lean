/- A text cut at a byte, and joined again: plain mathematics. -/
import Derived.Test.YtnildbalaedlgaaDoorM10
import Derived.Lib.SplitLaws
import Derived.Lib.Join
namespace Go.Proofs.YtnildbalaedlgaaDoor
set_option maxRecDepth 100000
open Go.RowKit M

def cutU (c : UInt8) : List UInt8 → List (List UInt8)
  | [] => [[]]
  | b :: r => if b = c then [] :: cutU c r else match cutU c r with
    | x :: t => (b :: x) :: t
    | [] => [[b]]
theorem cutU_ne (c : UInt8) : ∀ s, ∃ x t, cutU c s = x :: t
  | [] => ⟨[], [], rfl⟩
  | b :: r => by
    unfold cutU
    split
    · exact ⟨_, _, rfl⟩
    · obtain ⟨x, t, h⟩ := cutU_ne c r
      rw [h]; exact ⟨_, _, rfl⟩
theorem cutU_len (c : UInt8) (s : List UInt8) : 1 ≤ (cutU c s).length := by
  obtain ⟨x, t, h⟩ := cutU_ne c s
  rw [h]; simp
theorem pre_one (c b : UInt8) (l : List UInt8) : [c].isPrefixOf (b :: l) = (c == b) := by
  simp [List.isPrefixOf]
theorem splitK_cut (c : UInt8) : ∀ s : List UInt8, Lib.splitK [c] 0 (Lib.count s [c]) s = cutU c s
  | [] => rfl
  | b :: r => by
    by_cases hb : b = c
    · subst hb
      rw [Lib.count_cons_eq, Nat.add_comm]
      have hi : Lib.index (b :: r) [b] = 0 := by unfold Lib.index; rw [pre_one]; simp
      unfold Lib.splitK cutU
      rw [hi, if_neg (by decide), if_pos rfl]
      simp [splitK_cut b r]
    · rw [Lib.count_cons_ne b c r hb]
      unfold cutU
      rw [if_neg hb]
      have ih := splitK_cut c r
      have hi : Lib.index (b :: r) [c] = if Lib.index r [c] == -1 then -1 else Lib.index r [c] + 1 := by
        conv => lhs; unfold Lib.index
        rw [pre_one, if_neg (by simpa using fun h => hb h.symm)]
      cases hk : Lib.count r [c] with
      | zero =>
        rw [hk] at ih
        rw [← ih]; rfl
      | succ k =>
        rw [hk] at ih
        have hm : Lib.index r [c] ≠ -1 := fun e => by rw [Lib.count_miss e] at hk; cases hk
        have hge := Lib.index_ge r [c]
        have hm1 : ¬ (Lib.index r [c] == -1) = true := fun e => hm (by simpa using e)
        have hm2 : ¬ (Lib.index r [c] + 1 == -1) = true := fun e => by have := (beq_iff_eq.1 e); omega
        unfold Lib.splitK at ih ⊢
        rw [if_neg hm1] at ih
        rw [hi, if_neg hm1, if_neg hm2, ← ih]
        have e1 : (Lib.index r [c] + 1).toNat = (Lib.index r [c]).toNat + 1 := by omega
        simp only [e1]
        rw [show (Lib.index r [c]).toNat + 1 + 0 = ((Lib.index r [c]).toNat + 0) + 1 by omega, List.take_succ_cons, show (Lib.index r [c]).toNat + 1 + [c].length = ((Lib.index r [c]).toNat + [c].length) + 1 by omega, List.drop_succ_cons]
        rfl
/-- One byte more. -/
def cutStep (c : UInt8) (st : List (List UInt8) × List UInt8) (b : UInt8) : List (List UInt8) × List UInt8 :=
  if b = c then (st.1 ++ [st.2], []) else (st.1, st.2 ++ [b])
theorem cut_fold (c : UInt8) : ∀ (s : List UInt8) (o : List (List UInt8)) (p x : List UInt8) (t : List (List UInt8)), cutU c s = x :: t → (s.foldl (cutStep c) (o, p)).1 ++ [(s.foldl (cutStep c) (o, p)).2] = o ++ (p ++ x) :: t
  | [], o, p, x, t, h => by cases h; simp
  | b :: r, o, p, x, t, h => by
    obtain ⟨y, u, hr⟩ := cutU_ne c r
    unfold cutU at h
    rw [List.foldl_cons]
    by_cases hb : b = c
    · rw [if_pos hb, hr] at h
      cases h
      have := cut_fold c r (o ++ [p]) [] y u hr
      unfold cutStep at this ⊢
      simp only [if_pos hb]
      rw [this]; simp
    · rw [if_neg hb, hr] at h
      cases h
      have := cut_fold c r o (p ++ [b]) y _ hr
      unfold cutStep at this ⊢
      simp only [if_neg hb]
      rw [this]; simp
theorem cut_sum (c : UInt8) : ∀ s : List UInt8, ((cutU c s).map fun z => z.length + 1).sum = s.length + 1
  | [] => rfl
  | b :: r => by
    have ih := cut_sum c r
    unfold cutU
    split
    · simp [ih]; omega
    · obtain ⟨y, u, hr⟩ := cutU_ne c r
      rw [hr] at ih ⊢
      simp at ih ⊢
      omega

theorem sub_add_sum {α : Type} (f : α → Nat) (n : Nat) : ∀ l : List α, (∀ x ∈ l, f x ≤ n) → (l.map f).sum ≤ n * l.length
  | [], _ => by simp
  | x :: l, h => by
    have h1 := sub_add_sum f n l (fun y hy => h y (List.mem_cons_of_mem _ hy))
    have h2 := h x (List.mem_cons_self ..)
    simp only [List.map_cons, List.sum_cons, List.length_cons, Nat.mul_succ]
    omega
theorem data_size (x : ByteArray) : x.data.toList.length = x.size := by rw [Array.length_toList]; rfl
/-- The parts of a text between its commas. -/
def cutB (s : ByteArray) : List ByteArray := (cutU 44 s.data.toList).map fun z => ⟨z.toArray⟩
theorem cutB_data (s : ByteArray) : (cutB s).map (·.data.toList) = cutU 44 s.data.toList := by
  unfold cutB
  rw [List.map_map]
  conv => rhs; rw [← List.map_id (cutU 44 s.data.toList)]
  apply List.map_congr_left
  intro z _
  simp
theorem cutB_len (s : ByteArray) : (cutB s).length = (cutU 44 s.data.toList).length := by unfold cutB; rw [List.length_map]
theorem split_cut (s : ByteArray) : Lib.splitB ⟨#[44]⟩ 0 (Lib.countB s ⟨#[44]⟩) s = cutB s := by
  have h := Lib.splitB_data ⟨#[44]⟩ 0 (Lib.countB s ⟨#[44]⟩) s
  have h2 := splitK_cut 44 s.data.toList
  have h3 : (Lib.splitB ⟨#[44]⟩ 0 (Lib.countB s ⟨#[44]⟩) s).map (·.data.toList) = cutU 44 s.data.toList := h.trans h2
  unfold cutB
  rw [← h3, List.map_map]
  conv => lhs; rw [← List.map_id (Lib.splitB ⟨#[44]⟩ 0 (Lib.countB s ⟨#[44]⟩) s)]
  apply List.map_congr_left
  intro z _
  simp
theorem cutB_size {x : ByteArray} {s : ByteArray} (h : x ∈ cutB s) : x.size ≤ s.size := by
  unfold cutB at h
  rw [List.mem_map] at h
  obtain ⟨z, hz, rfl⟩ := h
  have h1 := cut_sum 44 s.data.toList
  have h2 : z.length + 1 ≤ ((cutU 44 s.data.toList).map fun z => z.length + 1).sum := by
    generalize cutU 44 s.data.toList = L at hz
    induction L with
    | nil => cases hz
    | cons y L ih =>
      simp only [List.map_cons, List.sum_cons]
      cases hz with
      | head => omega
      | tail _ h => have := ih h; omega
  rw [data_size] at h1
  have h3 : (⟨z.toArray⟩ : ByteArray).size = z.length := rfl
  omega
theorem cutB_le (s : ByteArray) : (cutB s).length ≤ s.size + 1 := by
  rw [cutB_len]
  have h1 := cut_sum 44 s.data.toList
  rw [data_size] at h1
  have h2 : ∀ L : List (List UInt8), L.length ≤ (L.map fun z => z.length + 1).sum := by
    intro L
    induction L with
    | nil => simp
    | cons y L ih => simp only [List.map_cons, List.sum_cons, List.length_cons]; omega
  have := h2 (cutU 44 s.data.toList)
  omega
theorem areC_cut_short {s : ByteArray} (h : areC (cutB s) = true) : s.size ≤ 100 := by
  obtain ⟨_, h5⟩ := areC_len h
  have hm : ∀ x ∈ cutB s, x.size + 1 ≤ 8 := fun x hx => by
    obtain ⟨k, hk, rfl⟩ := List.getElem_of_mem hx
    have := name_size (areC_mem h (List.getElem?_eq_getElem hk)).1
    omega
  have h1 := cut_sum 44 s.data.toList
  rw [data_size, ← cutB_data, List.map_map] at h1
  have h2 := sub_add_sum (fun x : ByteArray => x.size + 1) 8 (cutB s) hm
  have h3 : ((cutB s).map ((fun z : List UInt8 => z.length + 1) ∘ fun x => x.data.toList)) = (cutB s).map fun x => x.size + 1 := by
    apply List.map_congr_left
    intro x _
    simp only [Function.comp, data_size]
  rw [h3] at h1
  omega
/-- What is read, and whether. -/
def prsN (s : ByteArray) : List ByteArray := if areC (cutB s) then cutB s else []
/-- One byte more, over texts. -/
def outK (s : ByteArray) (k : Nat) : List ByteArray := ((s.data.toList.take k).foldl (cutStep 44) ([], [])).1.map fun z => ⟨z.toArray⟩
def partK (s : ByteArray) (k : Nat) : ByteArray := ⟨((s.data.toList.take k).foldl (cutStep 44) ([], [])).2.toArray⟩
theorem outK_zero (s : ByteArray) : outK s 0 = [] := rfl
theorem partK_zero (s : ByteArray) : partK s 0 = ⟨#[]⟩ := rfl
theorem outK_end (s : ByteArray) : outK s s.size ++ [partK s s.size] = cutB s := by
  unfold outK partK cutB
  rw [show s.data.toList.take s.size = s.data.toList by rw [← data_size, List.take_length]]
  obtain ⟨x, t, h⟩ := cutU_ne 44 s.data.toList
  have := cut_fold 44 s.data.toList [] [] x t h
  rw [h]
  simp only [List.nil_append] at this
  rw [← this]
  simp
theorem fold_succ (s : ByteArray) (k : Nat) (b : UInt8) (h : s.data.toList[k]? = some b) : (s.data.toList.take (k + 1)).foldl (cutStep 44) ([], []) = cutStep 44 ((s.data.toList.take k).foldl (cutStep 44) ([], [])) b := by
  rw [List.take_add_one, h, List.foldl_append]; rfl
theorem out_comma (s : ByteArray) (k : Nat) (h : s.data.toList[k]? = some 44) : outK s (k + 1) = outK s k ++ [partK s k] ∧ partK s (k + 1) = ⟨#[]⟩ := by
  unfold outK partK
  rw [fold_succ s k 44 h]
  unfold cutStep
  simp
theorem out_other (s : ByteArray) (k : Nat) (b : UInt8) (h : s.data.toList[k]? = some b) (hb : b ≠ 44) : outK s (k + 1) = outK s k ∧ partK s (k + 1) = partK s k ++ ⟨#[b]⟩ := by
  unfold outK partK
  rw [fold_succ s k b h]
  unfold cutStep
  rw [if_neg hb]
  refine ⟨rfl, ?_⟩
  apply ByteArray.ext
  simp
theorem part_size (s : ByteArray) : ∀ k, (partK s k).size ≤ k ∧ (outK s k).length ≤ k
  | 0 => ⟨by rw [partK_zero]; exact Nat.le_refl 0, by rw [outK_zero]; exact Nat.le_refl 0⟩
  | k + 1 => by
    have ih := part_size s k
    by_cases h : k < s.data.toList.length
    · have hk := List.getElem?_eq_getElem h
      by_cases hb : s.data.toList[k] = 44
      · rw [hb] at hk
        rw [(out_comma s k hk).1, (out_comma s k hk).2, List.length_append, List.length_singleton]
        have : (⟨#[]⟩ : ByteArray).size = 0 := rfl
        omega
      · rw [(out_other s k _ hk hb).1, (out_other s k _ hk hb).2, ByteArray.size_append]
        have : (⟨#[s.data.toList[k]]⟩ : ByteArray).size = 1 := rfl
        omega
    · have e : s.data.toList.take (k + 1) = s.data.toList.take k := by rw [List.take_of_length_le (by omega), List.take_of_length_le (by omega)]
      unfold partK outK at ih ⊢
      rw [e]
      omega
theorem join_take (l : List ByteArray) : ∀ k, k ≤ l.length → (joinN l k).data.toList = Lib.join ((l.take k).map (·.data.toList)) [44]
  | 0, _ => rfl
  | k + 1, hk => by
    have ih := join_take l k (by omega)
    have hx := List.getElem?_eq_getElem (l := l) (i := k) (by omega)
    have hg : l.getD k ByteArray.empty = l[k] := by rw [List.getD_eq_getElem?_getD, hx]; rfl
    unfold joinN
    rw [hg]
    cases k with
    | zero =>
      rw [if_neg (by omega)]
      have e : l.take 1 = [l[0]] := by
        cases l with
        | nil => simp at hk
        | cons a t => rfl
      rw [e, List.map_cons, List.map_nil, Lib.join_one]
      show (joinN l 0 ++ l[0]).data.toList = _
      simp [joinN]
    | succ k =>
      rw [if_pos (by omega)]
      obtain ⟨a, t, rfl⟩ : ∃ a t, l = a :: t := by
        cases l with
        | nil => simp at hk
        | cons a t => exact ⟨a, t, rfl⟩
      rw [List.take_succ_cons, List.map_cons, Lib.join_cons] at ih ⊢
      have h2 : (t.map (·.data.toList))[k]? = some (t[k]'(by simp at hk; omega)).data.toList := by rw [List.getElem?_map, List.getElem?_eq_getElem (by simp at hk; omega)]; rfl
      have h3 := Lib.joinTail_take_succ [44] (t.map (·.data.toList)) k _ h2
      rw [List.map_take, h3]
      rw [List.map_take] at ih
      simp only [ByteArray.data_append, Array.toList_append, ih]
      simp
theorem join_all (l : List ByteArray) : (⟨(Lib.join (l.map (·.data.toList)) [44]).toArray⟩ : ByteArray) = joinN l l.length := by
  have h := join_take l l.length (Nat.le_refl _)
  rw [List.take_length] at h
  rw [← h]
end Go.Proofs.YtnildbalaedlgaaDoor
