/- Faithfulness: plain mathematics: counts of links, breaks, candidates composed. -/
import Derived.Test.YtfcmhbbeohhjmaaCd
namespace Go.Proofs.Ytfcmhbbeohhjmaa
set_option maxRecDepth 100000
open Go.RowKit M
set_option linter.unusedVariables false
set_option linter.unusedSimpArgs false

/-- The kinds of links. -/
def delK (x : DLink) : Bool := decide ((x.Out.toNat : Int) = 0)
def insK (x : DLink) : Bool := decide ((x.In.toNat : Int) = 0)
def kepK (x : DLink) : Bool := !decide ((x.Out.toNat : Int) = 0) && !decide ((x.In.toNat : Int) = 0)
def vchK (x : DLink) : Bool := kepK x && !decide ((x.In.toNat : Int) = (x.Out.toNat : Int))
def cntL (p : DLink → Bool) (l : List DLink) : Nat := l.countP p
def cntC (p : DLink → Bool) (l : List DLink) : Nat := if isCd l then cntL p l else 0
theorem cntL_step (p : DLink → Bool) {l : List DLink} {k : Nat} {x : DLink} (h : l[k]? = some x) : cntL p (l.take (k + 1)) = cntL p (l.take k) + (if p x then 1 else 0) := by
  unfold cntL
  rw [take_next h, List.countP_append, List.countP_cons, List.countP_nil, Nat.zero_add]
theorem cntL_yes {p : DLink → Bool} {l : List DLink} {k : Nat} {x : DLink} (h : l[k]? = some x) (hp : p x = true) : cntL p (l.take (k + 1)) = cntL p (l.take k) + 1 := by
  rw [cntL_step p h, if_pos hp]
theorem cntL_no {p : DLink → Bool} {l : List DLink} {k : Nat} {x : DLink} (h : l[k]? = some x) (hp : p x = false) : cntL p (l.take (k + 1)) = cntL p (l.take k) := by
  rw [cntL_step p h, if_neg (by simp [hp]), Nat.add_zero]
theorem cntL_le (p : DLink → Bool) (l : List DLink) (k : Nat) : cntL p (l.take k) ≤ k := by
  refine Nat.le_trans List.countP_le_length ?_
  rw [List.length_take]; omega
theorem cntL_nil (p : DLink → Bool) : cntL p [] = 0 := rfl
/-- From the first link that is kept to the last one. -/
def insideL (l : List DLink) : List DLink := (l.take (l.length - l.reverse.findIdx kepK)).drop (l.findIdx kepK)
theorem inside_none {l : List DLink} (h : ∀ (j : Nat) (y : DLink), l[j]? = some y → kepK y = false) : insideL l = [] := by
  have h1 : l.findIdx kepK = l.length := by
    rw [List.findIdx_eq_length]
    intro x hx
    obtain ⟨j, hj, rfl⟩ := List.getElem_of_mem hx
    exact h j _ (List.getElem?_eq_getElem hj)
  unfold insideL
  rw [h1]
  apply List.drop_eq_nil_of_le
  rw [List.length_take]; omega
theorem first_is {l : List DLink} {f : Nat} {x : DLink} (h : l[f]? = some x) (hx : kepK x = true) (hf : ∀ (j : Nat) (y : DLink), j < f → l[j]? = some y → kepK y = false) : l.findIdx kepK = f := by
  obtain ⟨hl, rfl⟩ := List.getElem?_eq_some_iff.1 h
  rw [List.findIdx_eq hl]
  exact ⟨hx, fun j hj => hf j _ hj (List.getElem?_eq_getElem (by omega))⟩
theorem last_is {l : List DLink} {e : Nat} {x : DLink} (h : l[e]? = some x) (hx : kepK x = true) (he : ∀ (j : Nat) (y : DLink), e < j → l[j]? = some y → kepK y = false) : l.length - l.reverse.findIdx kepK = e + 1 := by
  obtain ⟨hl, rfl⟩ := List.getElem?_eq_some_iff.1 h
  have h1 : l.reverse.findIdx kepK = l.length - 1 - e := by
    have hr : l.length - 1 - e < l.reverse.length := by rw [List.length_reverse]; omega
    rw [List.findIdx_eq hr]
    refine ⟨?_, fun j hj => ?_⟩
    · rw [List.getElem_reverse]
      have : l.length - 1 - (l.length - 1 - e) = e := by omega
      simp only [this]
      exact hx
    · rw [List.getElem_reverse]
      exact he _ _ (by omega) (List.getElem?_eq_getElem (by omega))
  rw [h1]; omega
theorem inside_is {l : List DLink} {f e : Nat} {x y : DLink} (hx : l[f]? = some x) (kx : kepK x = true) (hf : ∀ (j : Nat) (z : DLink), j < f → l[j]? = some z → kepK z = false)
    (hy : l[e]? = some y) (ky : kepK y = true) (he : ∀ (j : Nat) (z : DLink), e < j → l[j]? = some z → kepK z = false) : insideL l = (l.take (e + 1)).drop f := by
  unfold insideL
  rw [first_is hx kx hf, last_is hy ky he]
def brkL (l : List DLink) : Nat := (insideL l).countP (fun x => !kepK x)
def brkC (l : List DLink) : Nat := if isCd l then brkL l else 0
theorem brk_none {l : List DLink} (h : ∀ (j : Nat) (y : DLink), l[j]? = some y → kepK y = false) : brkL l = 0 := by
  unfold brkL; rw [inside_none h]; rfl
def spanN (l : List DLink) (f i : Nat) : Nat := ((l.take i).drop f).countP (fun x => !kepK x)
theorem span_zero (l : List DLink) (f : Nat) : spanN l f f = 0 := by
  unfold spanN
  rw [List.drop_eq_nil_of_le (by rw [List.length_take]; omega)]; rfl
theorem span_step {l : List DLink} {f i : Nat} {x : DLink} (h : l[i]? = some x) (hf : f ≤ i) : spanN l f (i + 1) = spanN l f i + (if kepK x then 0 else 1) := by
  unfold spanN
  have hl := (List.getElem?_eq_some_iff.1 h).1
  rw [take_next h, List.drop_append_of_le_length (by rw [List.length_take]; omega), List.countP_append, List.countP_cons, List.countP_nil]
  cases kepK x <;> simp
theorem span_le (l : List DLink) (f i : Nat) : spanN l f i ≤ i := by
  unfold spanN
  refine Nat.le_trans List.countP_le_length ?_
  rw [List.length_drop, List.length_take]; omega
theorem brk_is {l : List DLink} {f e : Nat} {x y : DLink} (hx : l[f]? = some x) (kx : kepK x = true) (hf : ∀ (j : Nat) (z : DLink), j < f → l[j]? = some z → kepK z = false)
    (hy : l[e]? = some y) (ky : kepK y = true) (he : ∀ (j : Nat) (z : DLink), e < j → l[j]? = some z → kepK z = false) (hfe : f ≤ e) : brkL l = spanN l f e := by
  unfold brkL
  rw [inside_is hx kx hf hy ky he]
  have := span_step hy hfe
  rw [if_pos ky, Nat.add_zero] at this
  exact this
/-- In a valid candidate an edit within is either a sound taken away or one put in. -/
theorem nk_split {x : DLink} (h : okL x = true) : (if kepK x then 0 else 1 : Nat) = (if delK x then 1 else 0) + (if insK x then 1 else 0) := by
  unfold kepK delK insK
  by_cases h1 : (x.Out.toNat : Int) = 0
  · by_cases h2 : (x.In.toNat : Int) = 0
    · exact absurd (h2.trans h1.symm) (ok_put h h2)
    · rw [decide_eq_true h1, decide_eq_false h2]; rfl
  · by_cases h2 : (x.In.toNat : Int) = 0
    · rw [decide_eq_false h1, decide_eq_true h2]; rfl
    · rw [decide_eq_false h1, decide_eq_false h2]; rfl
theorem nk_count : ∀ {l : List DLink}, (∀ x ∈ l, okL x = true) → l.countP (fun x => !kepK x) = cntL delK l + cntL insK l := by
  intro l
  induction l with
  | nil => intro _; rfl
  | cons x l ih =>
    intro h
    have h1 := nk_split (h x (by simp))
    have h2 := ih (fun y hy => h y (by simp [hy]))
    unfold cntL at *
    rw [List.countP_cons, List.countP_cons, List.countP_cons, h2]
    cases hk : kepK x <;> rw [hk] at h1 <;> simp at h1 ⊢ <;> omega
theorem inside_mem {l : List DLink} {x : DLink} (h : x ∈ insideL l) : x ∈ l := List.mem_of_mem_take (List.mem_of_mem_drop h)
theorem brk_two {l : List DLink} (h : isCd l = true) : brkL l = cntL delK (insideL l) + cntL insK (insideL l) :=
  nk_count fun x hx => isCd_ok h (inside_mem hx)
/-- Two candidates one after the other, link by link. -/
def compL : List DLink → List DLink → List DLink
  | [], b => b
  | x :: a, [] => if x.Out = 0 then x :: compL a [] else []
  | x :: a, y :: b => if x.Out = 0 then x :: compL a (y :: b) else if y.In = 0 then y :: compL (x :: a) b else if x.In = 0 ∧ y.Out = 0 then compL a b else ⟨x.In, y.Out⟩ :: compL a b
  termination_by a b => a.length + b.length
theorem comp_nil (b : List DLink) : compL [] b = b := by unfold compL; rfl
theorem comp_away {x : DLink} {a b : List DLink} (h : x.Out = 0) : compL (x :: a) b = x :: compL a b := by
  cases b with
  | nil => rw [compL, if_pos h]
  | cons y b => rw [compL, if_pos h]
theorem comp_put {x y : DLink} {a b : List DLink} (h : ¬ x.Out = 0) (hy : y.In = 0) : compL (x :: a) (y :: b) = y :: compL (x :: a) b := by
  rw [compL, if_neg h, if_pos hy]
theorem comp_none {x y : DLink} {a b : List DLink} (h : ¬ x.Out = 0) (hy : ¬ y.In = 0) (hz : x.In = 0 ∧ y.Out = 0) : compL (x :: a) (y :: b) = compL a b := by
  rw [compL, if_neg h, if_neg hy, if_pos hz]
theorem comp_both {x y : DLink} {a b : List DLink} (h : ¬ x.Out = 0) (hy : ¬ y.In = 0) (hz : ¬ (x.In = 0 ∧ y.Out = 0)) : compL (x :: a) (y :: b) = ⟨x.In, y.Out⟩ :: compL a b := by
  rw [compL, if_neg h, if_neg hy, if_neg hz]
theorem inL_cons (x : DLink) (l : List DLink) : inL (x :: l) = if x.In = 0 then inL l else x.In :: inL l := by
  unfold inL; by_cases h : x.In = 0 <;> simp [h]
theorem outL_cons (x : DLink) (l : List DLink) : outL (x :: l) = if x.Out = 0 then outL l else x.Out :: outL l := by
  unfold outL; by_cases h : x.Out = 0 <;> simp [h]
theorem swapV_obs {a : Int} (h : isObs a = true) : isObs (swapV a) = true ∧ swapV (swapV a) = a := by
  rcases isObs_cases a h with rfl | rfl | rfl | rfl <;> decide
/-- What two links do to a sound, one link can do. -/
theorem ok_comp {x y : DLink} (hx : okL x = true) (hy : okL y = true) (ho : ¬ x.Out = 0) (he : x.Out = y.In) (hz : ¬ (x.In = 0 ∧ y.Out = 0)) : okL ⟨x.In, y.Out⟩ = true := by
  obtain ⟨a, b⟩ := x
  obtain ⟨c, d⟩ := y
  simp only at he ho hz
  subst he
  have hb : ¬ (b.toNat : Int) = 0 := fun e => ho ((u8_zero _).1 e)
  unfold okL okI at hx hy ⊢
  simp only at hx hy ⊢
  rw [if_neg hb] at hy
  by_cases ha : (a.toNat : Int) = 0
  · have hd : ¬ (d.toNat : Int) = 0 := fun e => hz ⟨(u8_zero _).1 ha, (u8_zero _).1 e⟩
    rw [if_pos ha] at hx ⊢
    by_cases hdb : (d.toNat : Int) = (b.toNat : Int)
    · rw [hdb]; exact hx
    · rw [if_neg (by rintro (e | e); exact hd e; exact hdb e), Bool.and_eq_true] at hy
      have e1 : (d.toNat : Int) = swapV (b.toNat : Int) := by simpa using hy.2
      rw [e1]
      rcases isObs_cases _ hy.1 with e | e | e | e <;> rw [e] <;> decide
  · rw [if_neg ha] at hx ⊢
    by_cases hba : (b.toNat : Int) = (a.toNat : Int)
    · rw [hba] at hy; exact hy
    · rw [if_neg (by rintro (e | e); exact hb e; exact hba e), Bool.and_eq_true] at hx
      have e1 : (b.toNat : Int) = swapV (a.toNat : Int) := by simpa using hx.2
      have hs := swapV_obs hx.1
      have hsa : isSnd (a.toNat : Int) = true := by
        rcases isObs_cases _ hx.1 with e | e | e | e <;> rw [e] <;> decide
      by_cases hd : (d.toNat : Int) = 0
      · rw [if_pos (Or.inl hd)]; exact hsa
      · by_cases hdb : (d.toNat : Int) = (b.toNat : Int)
        · by_cases hda : (d.toNat : Int) = (a.toNat : Int)
          · rw [if_pos (Or.inr hda)]; exact hsa
          · rw [if_neg (by rintro (e | e); exact hd e; exact hda e), hx.1, Bool.true_and, hdb, e1]; simp
        · rw [if_neg (by rintro (e | e); exact hd e; exact hdb e), Bool.and_eq_true] at hy
          have e2 : (d.toNat : Int) = swapV (b.toNat : Int) := by simpa using hy.2
          rw [e1, hs.2] at e2
          rw [if_pos (Or.inr e2)]; exact hsa
theorem inL_none {b : List DLink} (h : inL b = []) : ∀ y ∈ b, y.In = 0 := by
  intro y hy
  unfold inL at h
  rw [List.filter_eq_nil_iff] at h
  have := h y.In (List.mem_map.2 ⟨y, hy, rfl⟩)
  simpa using this
theorem comp_sides : ∀ (n : Nat) (a b : List DLink), a.length + b.length = n → outL a = inL b → inL (compL a b) = inL a ∧ outL (compL a b) = outL b := by
  intro n
  induction n using Nat.strongRecOn with
  | _ n ih =>
    intro a b hn h
    cases a with
    | nil =>
      rw [comp_nil]
      refine ⟨?_, rfl⟩
      rw [← h]; rfl
    | cons x a =>
      rw [outL_cons] at h
      by_cases hx : x.Out = 0
      · rw [if_pos hx] at h
        have := ih (a.length + b.length) (by simp at hn; omega) a b rfl h
        rw [comp_away hx, inL_cons, outL_cons, inL_cons, if_pos hx, this.1, this.2]
        exact ⟨rfl, rfl⟩
      · rw [if_neg hx] at h
        cases b with
        | nil => cases h
        | cons y b =>
          rw [inL_cons] at h
          by_cases hy : y.In = 0
          · rw [if_pos hy] at h
            have := ih ((x :: a).length + b.length) (by simp at hn ⊢; omega) (x :: a) b rfl (by rw [outL_cons, if_neg hx]; exact h)
            rw [comp_put hx hy, inL_cons, outL_cons, if_pos hy, this.1, this.2, outL_cons]
            exact ⟨rfl, rfl⟩
          · rw [if_neg hy] at h
            injection h with h1 h2
            have := ih (a.length + b.length) (by simp at hn; omega) a b rfl h2
            by_cases hz : x.In = 0 ∧ y.Out = 0
            · rw [comp_none hx hy hz, inL_cons, outL_cons, if_pos hz.1, if_pos hz.2]
              exact this
            · rw [comp_both hx hy hz, inL_cons, outL_cons, inL_cons, outL_cons, this.1, this.2]
              exact ⟨rfl, rfl⟩
theorem comp_ok : ∀ (n : Nat) (a b : List DLink), a.length + b.length = n → outL a = inL b → (∀ x ∈ a, okL x = true) → (∀ x ∈ b, okL x = true) → ∀ x ∈ compL a b, okL x = true := by
  intro n
  induction n using Nat.strongRecOn with
  | _ n ih =>
    intro a b hn h ka kb
    cases a with
    | nil => rw [comp_nil]; exact kb
    | cons x a =>
      rw [outL_cons] at h
      have kx := ka x (by simp)
      have ka' : ∀ z ∈ a, okL z = true := fun z hz => ka z (by simp [hz])
      by_cases hx : x.Out = 0
      · rw [if_pos hx] at h
        have := ih (a.length + b.length) (by simp at hn; omega) a b rfl h ka' kb
        rw [comp_away hx]
        intro z hz
        rcases List.mem_cons.1 hz with rfl | hz
        · exact kx
        · exact this z hz
      · rw [if_neg hx] at h
        cases b with
        | nil => cases h
        | cons y b =>
          have ky := kb y (by simp)
          have kb' : ∀ z ∈ b, okL z = true := fun z hz => kb z (by simp [hz])
          rw [inL_cons] at h
          by_cases hy : y.In = 0
          · rw [if_pos hy] at h
            have := ih ((x :: a).length + b.length) (by simp at hn ⊢; omega) (x :: a) b rfl (by rw [outL_cons, if_neg hx]; exact h) ka kb'
            rw [comp_put hx hy]
            intro z hz
            rcases List.mem_cons.1 hz with rfl | hz
            · exact ky
            · exact this z hz
          · rw [if_neg hy] at h
            injection h with h1 h2
            have := ih (a.length + b.length) (by simp at hn; omega) a b rfl h2 ka' kb'
            by_cases hz : x.In = 0 ∧ y.Out = 0
            · rw [comp_none hx hy hz]; exact this
            · rw [comp_both hx hy hz]
              intro z hm
              rcases List.mem_cons.1 hm with rfl | hm
              · exact ok_comp kx ky hx h1 hz
              · exact this z hm
/-- A valid link leads to a sound or comes from one. -/
theorem len_sides : ∀ {l : List DLink}, (∀ x ∈ l, okL x = true) → l.length ≤ (inL l).length + (outL l).length := by
  intro l
  induction l with
  | nil => intro _; simp
  | cons x l ih =>
    intro h
    have h1 := ih (fun y hy => h y (by simp [hy]))
    have hx := h x (by simp)
    rw [inL_cons, outL_cons, List.length_cons]
    by_cases h2 : x.In = 0
    · have h3 : ¬ x.Out = 0 := fun e => ok_put hx ((u8_zero _).2 h2) (by rw [h2, e])
      rw [if_pos h2, if_neg h3, List.length_cons]; omega
    · rw [if_neg h2, List.length_cons]
      split
      · omega
      · rw [List.length_cons]; omega
theorem isCd_forms {l : List DLink} (h : isCd l = true) : isFm ⟨(inL l).toArray⟩ = true ∧ isFm ⟨(outL l).toArray⟩ = true := by
  unfold isCd at h
  rw [Bool.and_eq_true, Bool.and_eq_true, Bool.and_eq_true] at h
  exact h.2.2
theorem isCd_of {l : List DLink} (h : ∀ x ∈ l, okL x = true) (hi : isFm ⟨(inL l).toArray⟩ = true) (ho : isFm ⟨(outL l).toArray⟩ = true) : isCd l = true := by
  have h1 := len_sides h
  have h2 : (inL l).length ≤ 8 := isFm_size hi
  have h3 : (outL l).length ≤ 8 := isFm_size ho
  unfold isCd
  rw [List.all_eq_true.2 h, hi, ho, show decide ((l.length : Int) ≤ 16) = true by simp; omega]
  rfl
theorem comp_valid {a b : List DLink} (ha : isCd a = true) (hb : isCd b = true) (h : outL a = inL b) : isCd (compL a b) = true := by
  have hs := comp_sides _ a b rfl h
  refine isCd_of (comp_ok _ a b rfl h (fun x hx => isCd_ok ha hx) (fun x hx => isCd_ok hb hx)) ?_ ?_
  · rw [hs.1]; exact (isCd_forms ha).1
  · rw [hs.2]; exact (isCd_forms hb).2
/-- Whether two candidates can be composed; what they come to. -/
def compB (a b : List DLink) : Bool := isCd a && isCd b && decide (outL a = inL b)
def compC (a b : List DLink) : List DLink := if compB a b then compL a b else []
theorem compC_len (a b : List DLink) : (compC a b).length ≤ 16 := by
  unfold compC
  split
  · rename_i h
    unfold compB at h
    rw [Bool.and_eq_true, Bool.and_eq_true] at h
    exact isCd_len (comp_valid h.1.1 h.1.2 (by simpa using h.2))
  · simp
end Go.Proofs.Ytfcmhbbeohhjmaa
