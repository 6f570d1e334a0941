/- Rankings: mathematics. -/
import Derived.Test.YtnildbalaedlgaaDoorRp
namespace Go.Proofs.YtnildbalaedlgaaDoor
set_option maxRecDepth 100000
set_option linter.unusedVariables false
set_option linter.unusedSimpArgs false

/-- All numbers below n lie in the list. -/
def covB (l : List Int) (n : Nat) : Bool := (List.range n).all fun k => decide ((k : Int) ∈ l)
theorem covB_iff {l : List Int} {n : Nat} : covB l n = true ↔ ∀ k : Nat, k < n → (k : Int) ∈ l := by simp [covB]
/-- A ranking of n constraints. -/
def rkB (l : List Int) (n : Int) : Bool := decide (1 ≤ n) && (decide (n ≤ 5) && (decide ((l.length : Int) = n) && covB l l.length))
theorem rkB_iff {l : List Int} {n : Int} : rkB l n = true ↔ 1 ≤ n ∧ n ≤ 5 ∧ (l.length : Int) = n ∧ ∀ k : Nat, k < l.length → (k : Int) ∈ l := by
  unfold rkB
  simp only [Bool.and_eq_true, decide_eq_true_eq, covB_iff]
theorem cover : ∀ (n : Nat) (l : List Int), (∀ k : Nat, k < n → (k : Int) ∈ l) → n ≤ l.length ∧ (l.length = n → (∀ x ∈ l, 0 ≤ x ∧ x < (n : Int)) ∧ l.Nodup)
  | 0, l, _ => ⟨Nat.zero_le _, fun h => by have := List.eq_nil_of_length_eq_zero h; subst this; exact ⟨fun x hx => by simp at hx, List.nodup_nil⟩⟩
  | n + 1, l, h => by
    have hn : (n : Int) ∈ l := h n (Nat.lt_succ_self n)
    have hp := List.perm_cons_erase hn
    have hl := hp.length_eq
    rw [List.length_cons] at hl
    obtain ⟨h1, h2⟩ := cover n (l.erase (n : Int)) fun k hk => (List.mem_erase_of_ne (by omega)).2 (h k (by omega))
    refine ⟨by omega, fun hlen => ?_⟩
    obtain ⟨h3, h4⟩ := h2 (by omega)
    have hx : (n : Int) ∉ l.erase (n : Int) := fun hm => by have := h3 _ hm; omega
    refine ⟨fun x hx' => ?_, hp.symm.nodup (List.nodup_cons.2 ⟨hx, h4⟩)⟩
    rcases List.mem_cons.1 (hp.mem_iff.1 hx') with rfl | hm
    · omega
    · have := h3 x hm; omega
theorem nodup_le : ∀ (l S : List Int), l.Nodup → (∀ x ∈ l, x ∈ S) → l.length ≤ S.length
  | [], S, _, _ => Nat.zero_le _
  | x :: l, S, hn, hs => by
    obtain ⟨hx, hn2⟩ := List.nodup_cons.1 hn
    have hxS := hs x (List.mem_cons_self ..)
    have := nodup_le l (S.erase x) hn2 fun y hy => (List.mem_erase_of_ne (fun e => by subst e; exact hx hy)).2 (hs y (List.mem_cons_of_mem _ hy))
    have hl := (List.perm_cons_erase hxS).length_eq
    rw [List.length_cons] at hl ⊢
    omega
/-- A list of n different numbers below n has all of them. -/
theorem fills {l : List Int} (hn : l.Nodup) (hr : ∀ x ∈ l, 0 ≤ x ∧ x < (l.length : Int)) (k : Nat) (hk : k < l.length) : (k : Int) ∈ l := by
  by_cases h : (k : Int) ∈ l
  · exact h
  · have hin : ∀ x ∈ l, x ∈ ((List.range l.length).map (fun (i : Nat) => (i : Int))).erase (k : Int) := fun x hx => by
      obtain ⟨h0, h1⟩ := hr x hx
      refine (List.mem_erase_of_ne (fun e => by subst e; exact h hx)).2 (List.mem_map.2 ⟨x.toNat, List.mem_range.2 (by omega), by omega⟩)
    have hk2 : (k : Int) ∈ (List.range l.length).map (fun (i : Nat) => (i : Int)) := List.mem_map.2 ⟨k, List.mem_range.2 hk, rfl⟩
    have h1 := nodup_le _ _ hn hin
    have h2 := (List.perm_cons_erase hk2).length_eq
    simp at h2
    omega
/-- The first k places of the list are different numbers from 0 up to n. -/
def goodTo (l : List Int) (n : Int) (k : Nat) : Prop := ∀ (j : Nat) (x : Int), j < k → l[j]? = some x → 0 ≤ x ∧ x < n ∧ x ∉ l.take j
theorem nodup_take {l : List Int} {n : Int} : ∀ k, k ≤ l.length → goodTo l n k → (l.take k).Nodup ∧ ∀ x ∈ l.take k, 0 ≤ x ∧ x < n
  | 0, _, _ => ⟨by simp, fun x hx => by simp at hx⟩
  | k + 1, hk, h => by
    obtain ⟨h1, h2⟩ := nodup_take k (by omega) fun j x hj hx => h j x (by omega) hx
    obtain ⟨y, hy⟩ : ∃ y, l[k]? = some y := ⟨_, List.getElem?_eq_getElem (by omega)⟩
    obtain ⟨h3, h4, h5⟩ := h k y (by omega) hy
    rw [List.take_add_one, hy]
    refine ⟨?_, fun x hx => ?_⟩
    · refine (List.perm_append_comm (l₁ := l.take k) (l₂ := [y])).symm.nodup ?_
      simpa using ⟨h5, h1⟩
    · rcases List.mem_append.1 hx with hx | hx
      · exact h2 x hx
      · simp at hx; subst hx; exact ⟨h3, h4⟩
theorem rk_of_good {l : List Int} {n : Int} (hg : goodTo l n l.length) : rkB l n = (decide (1 ≤ n) && (decide (n ≤ 5) && decide ((l.length : Int) = n))) := by
  by_cases h : (l.length : Int) = n
  · obtain ⟨h1, h2⟩ := nodup_take l.length (Nat.le_refl _) hg
    rw [List.take_length] at h1 h2
    have hc : covB l l.length = true := covB_iff.2 (fills h1 fun x hx => by rw [h]; exact h2 x hx)
    unfold rkB
    rw [hc, Bool.and_true]
  · unfold rkB
    simp [h]
theorem good_of_rk {l : List Int} {n : Int} (h : rkB l n = true) : goodTo l n l.length := by
  obtain ⟨h1, h2, h3, h4⟩ := rkB_iff.1 h
  obtain ⟨_, hc⟩ := cover l.length l h4
  obtain ⟨h5, h6⟩ := hc rfl
  intro j x hj hx
  obtain ⟨h7, h8⟩ := h5 x (List.mem_of_getElem? hx)
  refine ⟨h7, by omega, fun hm => ?_⟩
  obtain ⟨i, hi, he⟩ := List.mem_take_iff_getElem.1 hm
  have hij : i < j := by omega
  have he2 : l[j]'hj = x := by rw [List.getElem?_eq_getElem hj] at hx; exact Option.some.inj hx
  exact (List.pairwise_iff_getElem.1 h6 i j (by omega) hj hij) (he.trans he2.symm)
theorem rk_bad {l : List Int} {n : Int} {k : Nat} {x : Int} (hk : l[k]? = some x) (h : x < 0 ∨ n ≤ x ∨ x ∈ l.take k) : rkB l n = false := by
  cases hr : rkB l n with
  | false => rfl
  | true =>
    obtain ⟨h1, h2, h3⟩ := good_of_rk hr k x (List.getElem?_eq_some_iff.1 hk).1 hk
    rcases h with h | h | h
    · omega
    · omega
    · exact (h3 h).elim
/-- What a ranking is made of. -/
theorem rk_at {l : List Int} {n : Int} (h : rkB l n = true) {k : Nat} {x : Int} (hk : l[k]? = some x) : 0 ≤ x ∧ x < n :=
  let g := good_of_rk h k x (List.getElem?_eq_some_iff.1 hk).1 hk
  ⟨g.1, g.2.1⟩
theorem rk_len {l : List Int} {n : Int} (h : rkB l n = true) : 1 ≤ n ∧ n ≤ 5 ∧ (l.length : Int) = n :=
  let g := rkB_iff.1 h
  ⟨g.1, g.2.1, g.2.2.1⟩
theorem rk_short {l : List Int} {n : Int} (h : ¬ (1 ≤ n ∧ n ≤ 5 ∧ (l.length : Int) = n)) : rkB l n = false := by
  cases hr : rkB l n with
  | false => rfl
  | true => exact (h (rk_len hr)).elim
theorem rk_not {l : List Int} {n : Int} {k : Nat} (hk : (k : Int) < n) (h : (k : Int) ∉ l) : rkB l n = false := by
  cases hr : rkB l n with
  | false => rfl
  | true =>
    obtain ⟨h1, h2, h3, h4⟩ := rkB_iff.1 hr
    exact (h (h4 k (by omega))).elim
theorem rk_yes {l : List Int} {n : Int} (h1 : 1 ≤ n) (h2 : n ≤ 5) (h3 : (l.length : Int) = n) (h4 : ∀ k : Nat, (k : Int) < n → (k : Int) ∈ l) : rkB l n = true :=
  rkB_iff.2 ⟨h1, h2, h3, fun k hk => h4 k (by omega)⟩
/-- Is the number in the list: its first place. -/
def idxN12 (l : List Int) (x : Int) : Int := if x ∈ l then (l.findIdx fun y => decide (y = x) : Nat) else -1
theorem idxN12_no {l : List Int} {x : Int} (h : ∀ (j : Nat) (y : Int), l[j]? = some y → ¬ y = x) : idxN12 l x = -1 := by
  unfold idxN12
  rw [if_neg]
  intro hm
  obtain ⟨j, hj⟩ := List.mem_iff_getElem?.1 hm
  exact h j x hj rfl
theorem idxN12_yes {l : List Int} {k : Nat} {x : Int} (h : l[k]? = some x) (hf : ∀ (j : Nat) (y : Int), j < k → l[j]? = some y → ¬ y = x) : idxN12 l x = k := by
  obtain ⟨hl, he⟩ := List.getElem?_eq_some_iff.1 h
  have h1 : (l.findIdx fun y => decide (y = x)) = k := by
    rw [List.findIdx_eq hl]
    exact ⟨by simp [he], fun j hj => by simpa using hf j _ hj (List.getElem?_eq_getElem (by omega))⟩
  unfold idxN12
  rw [if_pos (List.mem_of_getElem? h), h1]
theorem mem_idx (l : List Int) (x : Int) : decide (x ∈ l) = decide (0 ≤ idxN12 l x) := by
  unfold idxN12
  by_cases h : x ∈ l
  · rw [if_pos h, decide_eq_true h, decide_eq_true (by omega)]
  · rw [if_neg h, decide_eq_false h]; rfl
theorem idxN12_rng (l : List Int) (x : Int) : -1 ≤ idxN12 l x := by unfold idxN12; split <;> omega

/-- Which of two lists has less at a place. -/
def diffAt (a b : List Int) (k : Int) : Int := if a.getD k.toNat 0 < b.getD k.toNat 0 then -1 else if b.getD k.toNat 0 < a.getD k.toNat 0 then 1 else 0
/-- The first place of a ranking at which they differ, and how. -/
def fdiff (a b : List Int) : List Int → Nat → Int × Int
  | [], _ => (-1, 0)
  | k :: r, i => if diffAt a b k = 0 then fdiff a b r (i + 1) else (i, diffAt a b k)
def cmpL (a b r : List Int) : Int := (fdiff a b r 0).2
def cmpV (a b r : List Int) : Int := if rkB r a.length && decide (a.length = b.length) then cmpL a b r else 0
theorem diffAt_rng (a b : List Int) (k : Int) : diffAt a b k = -1 ∨ diffAt a b k = 0 ∨ diffAt a b k = 1 := by
  unfold diffAt; split
  · exact .inl rfl
  · split
    · exact .inr (.inr rfl)
    · exact .inr (.inl rfl)
theorem diffAt_swap (a b : List Int) (k : Int) : diffAt b a k = - diffAt a b k := by
  unfold diffAt
  generalize a.getD k.toNat 0 = x
  generalize b.getD k.toNat 0 = y
  rcases Int.lt_trichotomy x y with h | h | h
  · rw [if_neg (by omega), if_pos h, if_pos h]; rfl
  · rw [if_neg (by omega), if_neg (by omega), if_neg (by omega), if_neg (by omega)]; rfl
  · rw [if_pos h, if_neg (by omega), if_pos h]
theorem fdiff_shift (a b : List Int) : ∀ (r : List Int) (i j : Nat), (fdiff a b r i).2 = (fdiff a b r j).2
  | [], _, _ => rfl
  | k :: r, i, j => by
    unfold fdiff
    split
    · exact fdiff_shift a b r _ _
    · rfl
theorem cmpL_cons (a b : List Int) (k : Int) (r : List Int) : cmpL a b (k :: r) = if diffAt a b k = 0 then cmpL a b r else diffAt a b k := by
  unfold cmpL
  rw [fdiff]
  split
  · exact fdiff_shift a b r _ _
  · rfl
theorem cmpL_rng (a b : List Int) : ∀ r : List Int, cmpL a b r = -1 ∨ cmpL a b r = 0 ∨ cmpL a b r = 1
  | [] => .inr (.inl rfl)
  | k :: r => by
    rw [cmpL_cons]
    split
    · exact cmpL_rng a b r
    · exact diffAt_rng a b k
theorem cmpL_swap (a b : List Int) : ∀ r : List Int, cmpL b a r = - cmpL a b r
  | [] => rfl
  | k :: r => by
    rw [cmpL_cons, cmpL_cons, diffAt_swap a b k, cmpL_swap a b r]
    by_cases h : diffAt a b k = 0
    · rw [if_pos h, if_pos (by omega)]
    · rw [if_neg h, if_neg (by omega)]
theorem cmpL_self (a : List Int) (r : List Int) : cmpL a a r = 0 := by have := cmpL_swap a a r; omega
theorem diffAt_le (a b : List Int) (k : Int) : diffAt a b k ≤ 0 ↔ a.getD k.toNat 0 ≤ b.getD k.toNat 0 := by
  unfold diffAt
  split
  · constructor <;> intro <;> omega
  · split
    · constructor <;> intro <;> omega
    · constructor <;> intro <;> omega
theorem diffAt_eq (a b : List Int) (k : Int) : diffAt a b k = 0 ↔ a.getD k.toNat 0 = b.getD k.toNat 0 := by
  unfold diffAt
  split
  · constructor <;> intro <;> omega
  · split
    · constructor <;> intro <;> omega
    · constructor <;> intro <;> omega
theorem cmpL_trans (a b c : List Int) : ∀ r : List Int, cmpL a b r ≤ 0 → cmpL b c r ≤ 0 → cmpL a c r ≤ 0 ∧ (cmpL a b r < 0 ∨ cmpL b c r < 0 → cmpL a c r < 0)
  | [] => fun _ _ => by
    have e : ∀ x y : List Int, cmpL x y [] = 0 := fun _ _ => rfl
    rw [e, e, e]
    omega
  | k :: r => by
    rw [cmpL_cons, cmpL_cons, cmpL_cons]
    intro h1 h2
    have ih := cmpL_trans a b c r
    have e1 := diffAt_eq a b k
    have e2 := diffAt_eq b c k
    have e3 := diffAt_eq a c k
    have l1 := diffAt_le a b k
    have l2 := diffAt_le b c k
    have l3 := diffAt_le a c k
    by_cases q1 : diffAt a b k = 0
    · rw [if_pos q1] at h1 ⊢
      by_cases q2 : diffAt b c k = 0
      · rw [if_pos q2] at h2 ⊢
        rw [if_pos (e3.2 ((e1.1 q1).trans (e2.1 q2)))]
        exact ih h1 h2
      · rw [if_neg q2] at h2 ⊢
        have x1 := e1.1 q1
        have x2 := l2.1 h2
        have q3 : ¬ diffAt a c k = 0 := fun h => q2 (e2.2 (by have := e3.1 h; omega))
        have := l3.2 (by omega)
        rw [if_neg q3]
        exact ⟨this, fun _ => by omega⟩
    · rw [if_neg q1] at h1 ⊢
      have x1 := l1.1 h1
      have n1 : ¬ a.getD k.toNat 0 = b.getD k.toNat 0 := fun h => q1 (e1.2 h)
      by_cases q2 : diffAt b c k = 0
      · rw [if_pos q2] at h2 ⊢
        have x2 := e2.1 q2
        have q3 : ¬ diffAt a c k = 0 := fun h => n1 (by have := e3.1 h; omega)
        have := l3.2 (by omega)
        rw [if_neg q3]
        exact ⟨this, fun _ => by omega⟩
      · rw [if_neg q2] at h2 ⊢
        have x2 := l2.1 h2
        have q3 : ¬ diffAt a c k = 0 := fun h => n1 (by have := e3.1 h; omega)
        have := l3.2 (by omega)
        rw [if_neg q3]
        exact ⟨this, fun _ => by omega⟩
end Go.Proofs.YtnildbalaedlgaaDoor
