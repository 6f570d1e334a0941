/- The text of a footing, foot by foot: plain mathematics. -/
import Derived.Test.YtifmcbhgoncgjaaDoorSf8
namespace Go.Proofs.YtifmcbhgoncgjaaDoor
open Go.RowKit M Go.Lib
set_option linter.unusedVariables false
set_option linter.unusedSimpArgs false

def opA (l : List DFoot) (i : Nat) : List UInt8 := l.flatMap fun x => if x.From = (i : Int) then [40] else []
def clA (l : List DFoot) (i : Nat) : List UInt8 := l.flatMap fun x => if x.From + x.Size = (i : Int) + 1 then [41] else []
theorem opT_take (l : List DFoot) (i : Nat) : ∀ k, k ≤ l.length → opT l i k = opA (l.take k) i
  | 0, _ => by simp [opT, opA]
  | k + 1, h => by
    have hk : k < l.length := by omega
    have hx := List.getElem?_eq_getElem hk
    rw [opT, opT_take l i k (by omega), hx, take_succ_of hx]
    unfold opA
    rw [List.flatMap_append]
    simp only [List.flatMap_cons, List.flatMap_nil, List.append_nil]
theorem clT_take (l : List DFoot) (i : Nat) : ∀ k, k ≤ l.length → clT l i k = clA (l.take k) i
  | 0, _ => by simp [clT, clA]
  | k + 1, h => by
    have hk : k < l.length := by omega
    have hx := List.getElem?_eq_getElem hk
    rw [clT, clT_take l i k (by omega), hx, take_succ_of hx]
    unfold clA
    rw [List.flatMap_append]
    simp only [List.flatMap_cons, List.flatMap_nil, List.append_nil]
theorem opT_all (l : List DFoot) (i : Nat) : opT l i l.length = opA l i := by rw [opT_take l i _ (Nat.le_refl _), List.take_length]
theorem clT_all (l : List DFoot) (i : Nat) : clT l i l.length = clA l i := by rw [clT_take l i _ (Nat.le_refl _), List.take_length]
theorem opA_none {l : List DFoot} {i : Nat} (h : ∀ x ∈ l, ¬ x.From = (i : Int)) : opA l i = [] := by
  unfold opA
  rw [List.flatMap_eq_nil_iff]
  intro x hx
  rw [if_neg (h x hx)]
theorem clA_none {l : List DFoot} {i : Nat} (h : ∀ x ∈ l, ¬ x.From + x.Size = (i : Int) + 1) : clA l i = [] := by
  unfold clA
  rw [List.flatMap_eq_nil_iff]
  intro x hx
  rw [if_neg (h x hx)]
theorem opA_add (l m : List DFoot) (i : Nat) : opA (l ++ m) i = opA l i ++ opA m i := by simp [opA]
theorem clA_add (l m : List DFoot) (i : Nat) : clA (l ++ m) i = clA l i ++ clA m i := by simp [clA]
/-- Where the feet of a row lie. -/
theorem okFeet_in {n : Int} : ∀ {l : List DFoot} {a : Int}, okFeet n a l = true → a ≤ endFeet a l ∧ ∀ x ∈ l, a ≤ x.From ∧ 1 ≤ x.Size ∧ x.From + x.Size ≤ endFeet a l
  | [], a, _ => ⟨by simp [endFeet], fun x hx => by simp at hx⟩
  | y :: l, a, h => by
    simp only [okFeet, Bool.and_eq_true] at h
    have h1 := okFoot_iff.1 h.1
    obtain ⟨h2, h3⟩ := okFeet_in h.2
    refine ⟨by rw [endFeet]; omega, fun x hx => ?_⟩
    rw [endFeet]
    rcases List.mem_cons.1 hx with rfl | hx
    · exact ⟨h1.1, h1.2.1, h2⟩
    · have := h3 x hx
      omega
theorem okFeet_le_n {n : Int} : ∀ {l : List DFoot} {a : Int}, okFeet n a l = true → a ≤ n → endFeet a l ≤ n
  | [], a, _, h => h
  | y :: l, a, h, _ => by
    simp only [okFeet, Bool.and_eq_true] at h
    have h1 := okFoot_iff.1 h.1
    rw [endFeet]
    exact okFeet_le_n h.2 (by omega)
/-- The digits of the stresses. -/
def digF (s : List Int) : List UInt8 := s.flatMap itoa
def cut (D : List UInt8) (a b : Nat) : List UInt8 := (D.drop a).take (b - a)
theorem cut_step (D : List UInt8) {a b c : Nat} (h1 : a ≤ b) (h2 : b ≤ c) : cut D a c = cut D a b ++ cut D b c := by
  unfold cut
  rw [show c - a = (b - a) + (c - b) by omega, List.take_add, List.drop_drop, show a + (b - a) = b by omega]
theorem cut_self (D : List UInt8) (a : Nat) : cut D a a = [] := by simp [cut]
theorem itoa_len {z : Int} (h : z = 0 ∨ z = 1 ∨ z = 2) : (itoa z).length = 1 := by
  have e : ∀ m : Nat, m < 10 → (itoa (m : Int)).length = 1 := fun m hm => by
    rw [itoa_nonneg, decDigits_one hm]; simp
  rcases h with rfl | rfl | rfl
  · exact e 0 (by omega)
  · exact e 1 (by omega)
  · exact e 2 (by omega)
theorem digF_len : ∀ {s : List Int}, (∀ z ∈ s, z = 0 ∨ z = 1 ∨ z = 2) → (digF s).length = s.length
  | [], _ => rfl
  | z :: s, h => by
    have h1 := itoa_len (h z (List.mem_cons_self ..))
    have h2 := digF_len (s := s) (fun y hy => h y (List.mem_cons_of_mem _ hy))
    unfold digF at h2 ⊢
    rw [List.flatMap_cons, List.length_append, List.length_cons]
    omega
theorem digF_step (s : List Int) (k : Nat) {z : Int} (h : s[k]? = some z) : digF (s.take (k + 1)) = digF (s.take k) ++ itoa z := by
  rw [take_succ_of h]; simp [digF]
theorem digF_cut {s : List Int} (hd : ∀ z ∈ s, z = 0 ∨ z = 1 ∨ z = 2) {i : Nat} {z : Int} (h : s[i]? = some z) : cut (digF s) i (i + 1) = itoa z := by
  have hi : i < s.length := (List.getElem?_eq_some_iff.1 h).1
  have hz := itoa_len (hd z (List.mem_of_getElem? h))
  have e : digF s = digF (s.take i) ++ (itoa z ++ digF (s.drop (i + 1))) := by
    have h1 : s = s.take (i + 1) ++ s.drop (i + 1) := (List.take_append_drop _ _).symm
    rw [← List.append_assoc, ← digF_step s i h]
    unfold digF
    rw [← List.flatMap_append, List.take_append_drop]
  have hl : (digF (s.take i)).length = i := by
    rw [digF_len fun y hy => hd y (List.mem_of_mem_take hy), List.length_take]; omega
  unfold cut
  rw [e, show i + 1 - i = (itoa z).length by omega]
  conv => lhs; arg 2; arg 1; rw [← hl]
  rw [List.drop_left, List.take_left]
section
variable {f : DFooting}
theorem ft_gap {D : List UInt8} (hD : D = digF (strL f)) (hd : ∀ z ∈ strL f, z = 0 ∨ z = 1 ∨ z = 2) {a : Nat} : ∀ b, a ≤ b → b ≤ (strL f).length → (∀ i, a ≤ i → i < b → opA f.Feet i = [] ∧ clA f.Feet i = []) → ftTo f b = ftTo f a ++ cut D a b
  | 0, h, _, _ => by
    obtain rfl : a = 0 := by omega
    rw [cut_self, List.append_nil]
  | b + 1, h, hb, hn => by
    by_cases e : a = b + 1
    · subst e; rw [cut_self, List.append_nil]
    · have ih := ft_gap hD hd b (by omega) (by omega) (fun i h1 h2 => hn i h1 (by omega))
      have hz := List.getElem?_eq_getElem (show b < (strL f).length by omega)
      obtain ⟨n1, n2⟩ := hn b (by omega) (by omega)
      rw [ftTo, opT_all, clT_all, n1, n2, ih, List.nil_append, List.append_nil, cut_step D (show a ≤ b by omega) (Nat.le_succ b), List.append_assoc, hD, digF_cut hd hz, List.getD_eq_getElem?_getD, hz]
      rfl
/-- A foot's text. -/
theorem ft_foot {D : List UInt8} (hD : D = digF (strL f)) (hd : ∀ z ∈ strL f, z = 0 ∨ z = 1 ∨ z = 2) {k a b e : Nat} {x : DFoot} (hx : f.Feet[k]? = some x) (hok : okFeet f.Syllables 0 f.Feet = true) (hn : (strL f).length = f.Syllables.toNat)
    (he : endFeet 0 (f.Feet.take k) = (e : Int)) (ha : x.From = (a : Int)) (hb : x.From + x.Size = (b : Int)) : e ≤ a ∧ a < b ∧ b ≤ (strL f).length ∧ ftTo f b = ftTo f e ++ (cut D e a ++ ([40] ++ (cut D a b ++ [41]))) := by
  have hkl : k < f.Feet.length := (List.getElem?_eq_some_iff.1 hx).1
  have hsp : f.Feet = f.Feet.take k ++ (x :: f.Feet.drop (k + 1)) := by
    rw [show x :: f.Feet.drop (k + 1) = f.Feet.drop k by rw [List.drop_eq_getElem_cons hkl]; rw [List.getElem?_eq_getElem hkl] at hx; cases hx; rfl, List.take_append_drop]
  have hok2 := hok
  rw [hsp, okFeet_add, Bool.and_eq_true] at hok2
  obtain ⟨o1, o2⟩ := hok2
  simp only [okFeet, Bool.and_eq_true] at o2
  obtain ⟨o2, o3⟩ := o2
  have q := okFoot_iff.1 o2
  obtain ⟨p1, p2⟩ := okFeet_in o1
  obtain ⟨p3, p4⟩ := okFeet_in o3
  rw [he] at q p2
  have hop : ∀ i : Nat, opA f.Feet i = opA (f.Feet.take k) i ++ ((if x.From = (i : Int) then [40] else []) ++ opA (f.Feet.drop (k + 1)) i) := fun i => by
    conv => lhs; rw [hsp]
    rw [opA_add]; rfl
  have hcl : ∀ i : Nat, clA f.Feet i = clA (f.Feet.take k) i ++ ((if x.From + x.Size = (i : Int) + 1 then [41] else []) ++ clA (f.Feet.drop (k + 1)) i) := fun i => by
    conv => lhs; rw [hsp]
    rw [clA_add]; rfl
  have oL : ∀ i : Nat, e ≤ i → opA (f.Feet.take k) i = [] ∧ clA (f.Feet.take k) i = [] := fun i hi => ⟨opA_none fun y hy => by have := p2 y hy; omega, clA_none fun y hy => by have := p2 y hy; omega⟩
  have oR : ∀ i : Nat, i < b → opA (f.Feet.drop (k + 1)) i = [] ∧ clA (f.Feet.drop (k + 1)) i = [] := fun i hi => ⟨opA_none fun y hy => by have := p4 y hy; omega, clA_none fun y hy => by have := p4 y hy; omega⟩
  have hbn : b ≤ (strL f).length := by rw [hn]; omega
  have g1 : ftTo f a = ftTo f e ++ cut D e a := ft_gap hD hd a (by omega) (by omega) fun i h1 h2 => by
    rw [hop, hcl, (oL i h1).1, (oL i h1).2, (oR i (by omega)).1, (oR i (by omega)).2, if_neg (by omega), if_neg (by omega)]
    exact ⟨rfl, rfl⟩
  have st : ∀ i : Nat, e ≤ i → i < b → ftTo f (i + 1) = ftTo f i ++ ((if x.From = (i : Int) then [40] else []) ++ (cut D i (i + 1) ++ (if x.From + x.Size = (i : Int) + 1 then [41] else []))) := fun i h1 h2 => by
    have hz := List.getElem?_eq_getElem (show i < (strL f).length by omega)
    rw [ftTo, opT_all, clT_all, hop, hcl, (oL i h1).1, (oL i h1).2, (oR i h2).1, (oR i h2).2, hD, digF_cut hd hz, List.getD_eq_getElem?_getD, hz]
    simp
  refine ⟨by omega, by omega, hbn, ?_⟩
  rcases (show x.Size = 1 ∨ x.Size = 2 by omega) with h1 | h2
  · obtain rfl : b = a + 1 := by omega
    rw [st a (by omega) (by omega), if_pos ha, if_pos (by omega), g1]
    simp
  · obtain rfl : b = a + 1 + 1 := by omega
    rw [st (a + 1) (by omega) (by omega), st a (by omega) (by omega), if_pos ha, if_neg (by omega), if_neg (by omega), if_pos (by omega), g1, cut_step D (show a ≤ a + 1 by omega) (show a + 1 ≤ a + 1 + 1 by omega)]
    simp
theorem ft_end {D : List UInt8} (hD : D = digF (strL f)) (hd : ∀ z ∈ strL f, z = 0 ∨ z = 1 ∨ z = 2) {e : Nat} (hok : okFeet f.Syllables 0 f.Feet = true) (he : endFeet 0 f.Feet = (e : Int)) (hle : e ≤ (strL f).length) : ftTo f (strL f).length = ftTo f e ++ cut D e (strL f).length := by
  obtain ⟨_, p⟩ := okFeet_in hok
  rw [he] at p
  exact ft_gap hD hd _ hle (Nat.le_refl _) fun i h1 h2 => ⟨opA_none fun y hy => by have := p y hy; omega, clA_none fun y hy => by have := p y hy; omega⟩
end
end Go.Proofs.YtifmcbhgoncgjaaDoor
