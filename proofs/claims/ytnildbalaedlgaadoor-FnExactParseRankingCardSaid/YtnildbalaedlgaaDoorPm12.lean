/- Reading a ranking: mathematics. -/
import Derived.Test.YtnildbalaedlgaaDoorCg12
import Derived.Test.YtnildbalaedlgaaDoorGm12
import Derived.Test.YtnildbalaedlgaaDoorIn10
namespace Go.Proofs.YtnildbalaedlgaaDoor
set_option maxRecDepth 100000
open Go.RowKit M
set_option linter.unusedVariables false
set_option linter.unusedSimpArgs false

theorem name_good {x : ByteArray} (h : hasB namesB x = true) : 1 ≤ x.size ∧ (62 : UInt8) ∉ x.data.toList := by
  unfold hasB at h
  rw [List.any_eq_true] at h
  obtain ⟨y, hy, he⟩ := h
  obtain rfl : y = x := by simpa using he
  simp only [namesB, List.mem_cons, List.mem_nil_iff, or_false] at hy
  rcases hy with rfl | rfl | rfl | rfl | rfl | rfl | rfl | rfl | rfl | rfl <;> decide
theorem names_lt {l : List ByteArray} (h : areC l = true) {i j : Nat} {x : ByteArray} (hi : l[i]? = some x) (hj : l[j]? = some x) : ¬ i < j := fun hij => by
  have h1 := (areC_mem h hj).2
  have h2 : (l.take j)[i]? = some x := by rw [List.getElem?_take_of_lt hij]; exact hi
  rw [hasB_yes h2] at h1
  cases h1
theorem names_diff {l : List ByteArray} (h : areC l = true) {i j : Nat} {x : ByteArray} (hi : l[i]? = some x) (hj : l[j]? = some x) : i = j := by
  have h1 := names_lt h hi hj
  have h2 := names_lt h hj hi
  omega
theorem idxB_at {l : List ByteArray} (h : areC l = true) {i : Nat} {x : ByteArray} (hi : l[i]? = some x) : idxB l x = i :=
  idxB_yes hi fun j y hj hy e => by subst e; have := names_diff h hi hy; omega
theorem hasB_ex {l : List ByteArray} {x : ByteArray} (h : hasB l x = true) : ∃ i : Nat, l[i]? = some x := by
  unfold hasB at h
  rw [List.any_eq_true] at h
  obtain ⟨y, hy, he⟩ := h
  obtain rfl : y = x := by simpa using he
  exact List.mem_iff_getElem?.1 hy
/-- The first k places of the list at which x stands. -/
def idsTo (l : List ByteArray) (x : ByteArray) (k : Nat) : List Int := ((List.range k).filter fun j => decide (l.getD j ByteArray.empty = x)).map fun (j : Nat) => (j : Int)
theorem idsTo_yes {l : List ByteArray} {x : ByteArray} {k : Nat} (h : l[k]? = some x) : idsTo l x (k + 1) = idsTo l x k ++ [(k : Int)] := by
  unfold idsTo
  rw [List.range_succ, List.filter_append, List.map_append]
  have hd : decide (l.getD k ByteArray.empty = x) = true := decide_eq_true (by rw [List.getD_eq_getElem?_getD, h]; rfl)
  simp only [List.filter_cons, List.filter_nil, hd, if_true, List.map_cons, List.map_nil]
theorem idsTo_no {l : List ByteArray} {x y : ByteArray} {k : Nat} (h : l[k]? = some y) (hn : ¬ y = x) : idsTo l x (k + 1) = idsTo l x k := by
  unfold idsTo
  rw [List.range_succ, List.filter_append, List.map_append]
  have hd : decide (l.getD k ByteArray.empty = x) = false := decide_eq_false (by rw [List.getD_eq_getElem?_getD, h]; exact hn)
  simp only [List.filter_cons, List.filter_nil, hd, Bool.false_eq_true, if_false, List.map_nil, List.append_nil]
theorem idsTo_len (l : List ByteArray) (x : ByteArray) (k : Nat) : (idsTo l x k).length ≤ k := by
  unfold idsTo
  rw [List.length_map]
  exact Nat.le_trans (List.length_filter_le _ _) (by simp)
def idsL (l : List ByteArray) (x : ByteArray) : List Int := idsTo l x l.length
theorem ids_at {l : List ByteArray} (h : areC l = true) {i : Nat} {x : ByteArray} (hi : l[i]? = some x) : ∀ k, k ≤ l.length → idsTo l x k = if i < k then [(i : Int)] else []
  | 0, _ => by simp [idsTo]
  | k + 1, hk => by
    have ih := ids_at h hi k (by omega)
    have hy := List.getElem?_eq_getElem (l := l) (i := k) (by omega)
    by_cases e : l[k] = x
    · rw [e] at hy
      obtain rfl := names_diff h hi hy
      rw [idsTo_yes hy, ih, if_neg (by omega), if_pos (by omega)]; rfl
    · rw [idsTo_no hy e, ih]
      have : i ≠ k := fun he => by subst he; rw [hi] at hy; exact e (Option.some.inj hy).symm
      by_cases hik : i < k
      · rw [if_pos hik, if_pos (by omega)]
      · rw [if_neg hik, if_neg (by omega)]
theorem ids_one {l : List ByteArray} (h : areC l = true) {i : Nat} {x : ByteArray} (hi : l[i]? = some x) : idsL l x = [(i : Int)] := by
  unfold idsL
  rw [ids_at h hi l.length (Nat.le_refl _), if_pos (List.getElem?_eq_some_iff.1 hi).1]
def outP (l : List ByteArray) (W : List ByteArray) (k : Nat) : List Int := (W.take k).flatMap (idsL l)
theorem outP_zero (l W : List ByteArray) : outP l W 0 = [] := by simp [outP]
theorem outP_step {l W : List ByteArray} {k : Nat} {x : ByteArray} (h : W[k]? = some x) : outP l W (k + 1) = outP l W k ++ idsL l x := by
  unfold outP
  rw [List.take_add_one, h, List.flatMap_append]
  simp
theorem flatP_len (l : List ByteArray) (hl : l.length ≤ 5) : ∀ W : List ByteArray, (W.flatMap (idsL l)).length ≤ W.length * 5
  | [] => by simp
  | x :: W => by
    have ih := flatP_len l hl W
    have := idsTo_len l x l.length
    rw [List.flatMap_cons, List.length_append, List.length_cons, Nat.succ_mul]
    unfold idsL at *
    omega
theorem outP_len {l W : List ByteArray} (hl : l.length ≤ 5) (hW : W.length ≤ 101) (k : Nat) : (outP l W k).length ≤ 505 := by
  have h1 := flatP_len l hl (W.take k)
  have h2 : (W.take k).length ≤ 101 := by rw [List.length_take]; omega
  unfold outP; omega
/-- Joined again: what was cut. -/
theorem joinTail_cons (sep x : List UInt8) (t : List (List UInt8)) : Lib.joinTail sep (x :: t) = sep ++ (x ++ Lib.joinTail sep t) := by
  unfold Lib.joinTail; simp
theorem join_cutU (c : UInt8) : ∀ s : List UInt8, Lib.join (cutU c s) [c] = s
  | [] => by unfold cutU; rw [Lib.join_one]
  | b :: r => by
    have ih := join_cutU c r
    obtain ⟨x, t, h⟩ := cutU_ne c r
    rw [h] at ih
    rw [Lib.join_cons] at ih
    unfold cutU
    by_cases hb : b = c
    · rw [if_pos hb, h, Lib.join_cons, joinTail_cons, ih, hb]; rfl
    · rw [if_neg hb, h]
      simp only
      rw [Lib.join_cons, List.cons_append, ih]
theorem cutU_plain (c : UInt8) : ∀ z : List UInt8, c ∉ z → cutU c z = [z]
  | [], _ => rfl
  | b :: z, h => by
    have hb : ¬ b = c := fun e => h (by rw [e]; exact List.mem_cons_self ..)
    unfold cutU
    rw [if_neg hb, cutU_plain c z fun hm => h (List.mem_cons_of_mem _ hm)]
theorem cutU_app (c : UInt8) (r : List UInt8) : ∀ z : List UInt8, c ∉ z → cutU c (z ++ c :: r) = z :: cutU c r
  | [], _ => by
    show cutU c (c :: r) = _
    conv => lhs; unfold cutU
    rw [if_pos rfl]
  | b :: z, h => by
    have hb : ¬ b = c := fun e => h (by rw [e]; exact List.mem_cons_self ..)
    show cutU c (b :: (z ++ c :: r)) = _
    conv => lhs; unfold cutU
    rw [if_neg hb, cutU_app c r z fun hm => h (List.mem_cons_of_mem _ hm)]
theorem cutU_join (c : UInt8) : ∀ (t : List (List UInt8)) (x : List UInt8), (∀ z ∈ x :: t, c ∉ z) → cutU c (Lib.join (x :: t) [c]) = x :: t
  | [], x, h => by rw [Lib.join_one]; exact cutU_plain c x (h x (List.mem_cons_self ..))
  | y :: t, x, h => by
    have ih := cutU_join c t y fun z hz => h z (List.mem_cons_of_mem _ hz)
    rw [Lib.join_cons, joinTail_cons]
    show cutU c (x ++ c :: (y ++ Lib.joinTail [c] t)) = _
    rw [cutU_app c _ x (h x (List.mem_cons_self ..)), ← Lib.join_cons, ih]
/-- The numbers of the parts. -/
def idxP (l : List ByteArray) (s : ByteArray) : List Int := (cutG s).map (idxB l)
def prkB (l : List ByteArray) (s : ByteArray) : Bool := areC l && rkB (idxP l s) l.length
def prkL (l : List ByteArray) (s : ByteArray) : List Int := if prkB l s then idxP l s else []
theorem parts_of {l : List ByteArray} {s : ByteArray} (h : areC l = true) (hr : rkB (idxP l s) l.length = true) {x : ByteArray} (hx : x ∈ cutG s) : ∃ i : Nat, l[i]? = some x ∧ idxB l x = (i : Int) := by
  obtain ⟨k, hk⟩ := List.mem_iff_getElem?.1 hx
  have h1 : (idxP l s)[k]? = some (idxB l x) := by unfold idxP; rw [List.getElem?_map, hk]; rfl
  have h2 := (rk_at hr h1).1
  have h3 : hasB l x = true := by rw [hasB_idx]; exact decide_eq_true h2
  obtain ⟨i, hi⟩ := hasB_ex h3
  exact ⟨i, hi, idxB_at h hi⟩
theorem flat_map {l : List ByteArray} (h : areC l = true) : ∀ W : List ByteArray, (∀ x ∈ W, ∃ i : Nat, l[i]? = some x ∧ idxB l x = (i : Int)) → W.flatMap (idsL l) = W.map (idxB l)
  | [], _ => rfl
  | x :: W, hW => by
    obtain ⟨i, h1, h2⟩ := hW x (List.mem_cons_self ..)
    rw [List.flatMap_cons, List.map_cons, flat_map h W fun y hy => hW y (List.mem_cons_of_mem _ hy), ids_one h h1, h2]; rfl
theorem data_back (s : ByteArray) : (⟨s.data.toList.toArray⟩ : ByteArray) = s := by apply ByteArray.ext; simp
theorem read_yes {l : List ByteArray} {s : ByteArray} (h : areC l = true) (hr : rkB (idxP l s) l.length = true) :
    outP l (cutG s) (cutG s).length = idxP l s ∧ fmtRk l (idxP l s) = s ∧ 1 ≤ s.size ∧ s.size ≤ 100 := by
  have hp := fun x hx => parts_of h hr (x := x) hx
  have h1 : outP l (cutG s) (cutG s).length = idxP l s := by unfold outP idxP; rw [List.take_length]; exact flat_map h _ hp
  have h2 : rkN l (idxP l s) = cutG s := by
    unfold rkN idxP
    rw [List.map_map]
    conv => rhs; rw [← List.map_id (cutG s)]
    apply List.map_congr_left
    intro x hx
    obtain ⟨i, q1, q2⟩ := hp x hx
    simp only [Function.comp, q2, Int.toNat_natCast, List.getD_eq_getElem?_getD, q1]
    rfl
  have h3 : joinG (cutG s) (cutG s).length = s := by
    rw [← joinG_all, cutG_data, join_cutU]
  have hl : (idxP l s).length = (cutG s).length := by unfold idxP; simp
  have h4 : fmtRk l (idxP l s) = s := by unfold fmtRk; rw [h, hr, h2, hl]; exact h3
  refine ⟨h1, h4, ?_, ?_⟩
  · rcases Nat.eq_zero_or_pos s.size with h0 | h0
    · have he : s.data.toList = [] := List.eq_nil_of_length_eq_zero (by rw [data_size]; exact h0)
      have hc : (⟨#[]⟩ : ByteArray) ∈ cutG s := by unfold cutG; rw [he]; simp [cutU]
      obtain ⟨i, q1, _⟩ := hp _ hc
      have := (name_good (areC_mem h q1).1).1
      have e : (⟨#[]⟩ : ByteArray).size = 0 := rfl
      omega
    · exact h0
  · have q := joinG_size (l := cutG s) (fun x hx => by obtain ⟨i, q1, _⟩ := hp x hx; exact name_size (areC_mem h q1).1) (cutG s).length (Nat.le_refl _)
    rw [h3] at q
    have := rk_len hr
    omega
theorem read_no {l : List ByteArray} {s : ByteArray} {out : List Int} (h : areC l = true) (he : fmtRk l out = s) (hs : 1 ≤ s.size) : rkB out l.length = true ∧ idxP l s = out := by
  have hr : rkB out l.length = true := by
    cases hr : rkB out l.length with
    | true => rfl
    | false =>
      unfold fmtRk at he
      rw [hr, Bool.and_false] at he
      have e : (⟨#[]⟩ : ByteArray).size = 0 := rfl
      rw [← he] at hs
      exact absurd hs (by rw [if_neg (by simp)]; omega)
  refine ⟨hr, ?_⟩
  have h0 : s = joinG (rkN l out) (rkN l out).length := by rw [← he, rkN_len]; unfold fmtRk; rw [h, hr]; rfl
  have hlen := rk_len hr
  have hnl := rkN_len l out
  have hcut : cutG s = rkN l out := by
    have h1 : s.data.toList = Lib.join ((rkN l out).map (·.data.toList)) [62] := by rw [h0, ← joinG_all]
    have h2 : ∀ z ∈ (rkN l out).map (·.data.toList), (62 : UInt8) ∉ z := fun z hz => by
      obtain ⟨x, hx, rfl⟩ := List.mem_map.1 hz
      obtain ⟨i, hi⟩ := List.mem_iff_getElem?.1 hx
      have hil := (List.getElem?_eq_some_iff.1 hi).1
      rw [rkN_len] at hil
      obtain ⟨j, y, _, _, hy, hy2⟩ := rkN_place hr hil
      rw [hi] at hy2
      cases hy2
      exact (name_good (areC_mem h hy).1).2
    have h3 : cutU 62 s.data.toList = (rkN l out).map (·.data.toList) := by
      rw [h1]
      generalize hL : (rkN l out).map (·.data.toList) = L at *
      have hne : 1 ≤ L.length := by rw [← hL, List.length_map]; omega
      obtain ⟨x, t, rfl⟩ := List.exists_cons_of_length_pos hne
      exact cutU_join 62 t x h2
    unfold cutG
    rw [h3, List.map_map]
    conv => rhs; rw [← List.map_id (rkN l out)]
    apply List.map_congr_left
    intro x _
    exact data_back x
  unfold idxP
  rw [hcut]
  unfold rkN
  rw [List.map_map]
  conv => rhs; rw [← List.map_id out]
  apply List.map_congr_left
  intro k hk
  obtain ⟨i, hi⟩ := List.mem_iff_getElem?.1 hk
  obtain ⟨q1, q2⟩ := rk_at hr hi
  have hg := List.getElem?_eq_getElem (l := l) (i := k.toNat) (by omega)
  simp only [Function.comp, List.getD_eq_getElem?_getD, hg, Option.getD_some, id]
  rw [idxB_at h hg]
  omega
/-- What both sides decide. -/
theorem read_iff {l : List ByteArray} {s : ByteArray} (h : areC l = true) : prkB l s = (decide (fmtRk l (outP l (cutG s) (cutG s).length) = s) && decide (1 ≤ s.size)) := by
  unfold prkB
  rw [h, Bool.true_and]
  cases hr : rkB (idxP l s) l.length with
  | true =>
    obtain ⟨h1, h2, h3, _⟩ := read_yes h hr
    rw [h1, decide_eq_true h2, decide_eq_true h3]; rfl
  | false =>
    by_cases h3 : 1 ≤ s.size
    · by_cases h2 : fmtRk l (outP l (cutG s) (cutG s).length) = s
      · obtain ⟨q1, q2⟩ := read_no h h2 h3
        rw [← q2] at q1
        rw [q1] at hr
        cases hr
      · rw [decide_eq_false h2]; rfl
    · rw [decide_eq_false h3, Bool.and_false]
end Go.Proofs.YtnildbalaedlgaaDoor
