/- Candidates: plain mathematics: valid links, both sides, edits, the text, and how a text is read back. -/
import Derived.Test.YtfcmhbbeohhjmaaFm
import Derived.Test.YtfcmhbbeohhjmaaTrCandidate
namespace Go.Proofs.Ytfcmhbbeohhjmaa
set_option maxRecDepth 100000
open Go.RowKit M
set_option linter.unusedVariables false
set_option linter.unusedSimpArgs false

theorem u8_zero (b : UInt8) : ((b.toNat : Int) = 0) ↔ b = 0 := by
  constructor
  · intro h; apply UInt8.toNat_inj.1; simp; omega
  · rintro rfl; rfl
theorem u8_eq (a b : UInt8) : ((a.toNat : Int) = (b.toNat : Int)) ↔ a = b := by
  constructor
  · intro h; apply UInt8.toNat_inj.1; omega
  · rintro rfl; rfl
theorem byt_u8 (b : UInt8) : byt (b.toNat : Int) = b := by
  apply UInt8.toNat_inj.1
  have := b.toNat_lt
  have := byt_toNat (b.toNat : Int) (by omega) (by omega)
  omega
theorem u8_in (b : UInt8) : 0 ≤ (b.toNat : Int) ∧ (b.toNat : Int) < 256 := ⟨by omega, by have := b.toNat_lt; omega⟩
/-- Whether a link with these sides is one that a candidate may have. -/
def okI (a b : Int) : Bool := if a = 0 then isSnd b else if b = 0 ∨ b = a then isSnd a else isObs a && decide (b = swapV a)
/-- The same as the model asks it. -/
def okM (a b : Int) : Bool := !((!decide (a = 0) && !isSnd a) || (!decide (b = 0) && !isSnd b) || (decide (a = 0) && decide (b = 0))) && !(!decide (a = 0) && !decide (b = 0) && !decide (a = b) && !(isObs a && decide (swapV a = b)))
theorem isSnd_zero : isSnd 0 = false := by decide
theorem isObs_cases (a : Int) : isObs a = true → a = 112 ∨ a = 116 ∨ a = 98 ∨ a = 100 := by
  unfold isObs; simp; omega
theorem okM_eq (a b : Int) : okM a b = okI a b := by
  unfold okM okI
  by_cases ha : a = 0
  · subst ha
    by_cases hb : b = 0
    · subst hb; simp [isSnd_zero]
    · simp [hb]
  · by_cases hb : b = 0
    · subst hb; simp [ha, isSnd_zero]
    · by_cases hab : b = a
      · subst hab; simp [ha]
      · have hab' : ¬ a = b := fun h => hab h.symm
        cases ho : isObs a with
        | false => simp [ha, hb, hab, hab']
        | true =>
          by_cases hs : swapV a = b
          · subst hs
            rcases isObs_cases a ho with rfl | rfl | rfl | rfl <;> decide
          · have hs' : ¬ b = swapV a := fun h => hs h.symm
            simp [ha, hb, hab, hab', hs, hs']
def okL (x : DLink) : Bool := okI (x.In.toNat : Int) (x.Out.toNat : Int)
/-- The sounds In, the sounds Out. -/
def inL (l : List DLink) : List UInt8 := (l.map (·.In)).filter (fun b => !decide (b = 0))
def outL (l : List DLink) : List UInt8 := (l.map (·.Out)).filter (fun b => !decide (b = 0))
def edits (l : List DLink) : Nat := (l.filter fun x => !decide (x.In = x.Out)).length
def isCd (l : List DLink) : Bool := l.all okL && (decide ((l.length : Int) ≤ 16) && (isFm ⟨(inL l).toArray⟩ && isFm ⟨(outL l).toArray⟩))
theorem take_next {α : Type} {l : List α} {k : Nat} {x : α} (h : l[k]? = some x) : l.take (k + 1) = l.take k ++ [x] := by
  rw [List.take_add_one, h]; rfl
theorem inL_yes {l : List DLink} {k : Nat} {x : DLink} (h : l[k]? = some x) (hx : ¬ (x.In.toNat : Int) = 0) : inL (l.take (k + 1)) = inL (l.take k) ++ [byt (x.In.toNat : Int)] := by
  have h0 : ¬ x.In = 0 := fun e => hx ((u8_zero _).2 e)
  rw [byt_u8, take_next h]; unfold inL
  simp [h0]
theorem inL_no {l : List DLink} {k : Nat} {x : DLink} (h : l[k]? = some x) (hx : (x.In.toNat : Int) = 0) : inL (l.take (k + 1)) = inL (l.take k) := by
  have h0 : x.In = 0 := (u8_zero _).1 hx
  rw [take_next h]; unfold inL
  simp [h0]
theorem outL_yes {l : List DLink} {k : Nat} {x : DLink} (h : l[k]? = some x) (hx : ¬ (x.Out.toNat : Int) = 0) : outL (l.take (k + 1)) = outL (l.take k) ++ [byt (x.Out.toNat : Int)] := by
  have h0 : ¬ x.Out = 0 := fun e => hx ((u8_zero _).2 e)
  rw [byt_u8, take_next h]; unfold outL
  simp [h0]
theorem outL_no {l : List DLink} {k : Nat} {x : DLink} (h : l[k]? = some x) (hx : (x.Out.toNat : Int) = 0) : outL (l.take (k + 1)) = outL (l.take k) := by
  have h0 : x.Out = 0 := (u8_zero _).1 hx
  rw [take_next h]; unfold outL
  simp [h0]
theorem inL_len (l : List DLink) (k : Nat) : (inL (l.take k)).length ≤ k := by
  unfold inL
  refine Nat.le_trans (List.length_filter_le _ _) ?_
  simp; omega
theorem outL_len (l : List DLink) (k : Nat) : (outL (l.take k)).length ≤ k := by
  unfold outL
  refine Nat.le_trans (List.length_filter_le _ _) ?_
  simp; omega
theorem inL_len_all (l : List DLink) : (inL l).length ≤ l.length := by
  have := inL_len l l.length; rwa [List.take_length] at this
theorem outL_len_all (l : List DLink) : (outL l).length ≤ l.length := by
  have := outL_len l l.length; rwa [List.take_length] at this
theorem edits_yes {l : List DLink} {k : Nat} {x : DLink} (h : l[k]? = some x) (hx : ¬ (x.In.toNat : Int) = (x.Out.toNat : Int)) : edits (l.take (k + 1)) = edits (l.take k) + 1 := by
  have h0 : ¬ x.In = x.Out := fun e => hx ((u8_eq _ _).2 e)
  rw [take_next h]; unfold edits
  rw [List.filter_append]
  simp [h0]
theorem edits_no {l : List DLink} {k : Nat} {x : DLink} (h : l[k]? = some x) (hx : (x.In.toNat : Int) = (x.Out.toNat : Int)) : edits (l.take (k + 1)) = edits (l.take k) := by
  have h0 : x.In = x.Out := (u8_eq _ _).1 hx
  rw [take_next h]; unfold edits
  rw [List.filter_append]
  simp [h0]
theorem edits_len (l : List DLink) (k : Nat) : edits (l.take k) ≤ k := by
  unfold edits
  refine Nat.le_trans (List.length_filter_le _ _) ?_
  simp; omega
theorem isCd_not {l : List DLink} {k : Nat} {x : DLink} (h : l[k]? = some x) (hx : okI (x.In.toNat : Int) (x.Out.toNat : Int) = false) : isCd l = false := by
  unfold isCd
  have : l.all okL = false := by
    rw [List.all_eq_false]
    exact ⟨x, List.mem_of_getElem? h, by unfold okL; rw [hx]; simp⟩
  rw [this, Bool.false_and]
theorem isCd_long {l : List DLink} (h : 16 < l.length) : isCd l = false := by
  unfold isCd
  have : decide ((l.length : Int) ≤ 16) = false := by simp; omega
  rw [this, Bool.false_and, Bool.and_false]
theorem all_ok {l : List DLink} (h : ∀ k x, l[k]? = some x → k < l.length → okI (x.In.toNat : Int) (x.Out.toNat : Int) = true) : l.all okL = true := by
  rw [List.all_eq_true]
  intro x hx
  obtain ⟨k, hk, rfl⟩ := List.getElem_of_mem hx
  exact h k _ (List.getElem?_eq_getElem hk) hk
theorem isCd_len {l : List DLink} (h : isCd l = true) : l.length ≤ 16 := by
  unfold isCd at h; simp at h; omega
theorem isCd_ok {l : List DLink} (h : isCd l = true) {x : DLink} (hx : x ∈ l) : okL x = true := by
  unfold isCd at h
  rw [Bool.and_eq_true] at h
  exact List.all_eq_true.1 h.1 x hx
theorem isCd_nil : isCd [] = true := by decide
/-- The text of a link, of a candidate. -/
def ftK (x : DLink) : List UInt8 := if x.In = x.Out then [x.In] else if x.In = 0 then [43, x.Out] else if x.Out = 0 then [45, x.In] else [42, x.In]
def ftC (l : List DLink) : List UInt8 := l.flatMap ftK
def noneB : List UInt8 := [110, 111, 110, 101]
def fmtC (l : List DLink) : List UInt8 := if isCd l then (if l = [] then noneB else ftC l) else []
theorem ftK_pos (x : DLink) : ftK x ≠ [] := by
  unfold ftK; split <;> (try split) <;> (try split) <;> simp
theorem ftK_len (x : DLink) : (ftK x).length ≤ 2 := by
  unfold ftK; split <;> (try split) <;> (try split) <;> simp
theorem ftC_step {l : List DLink} {k : Nat} {x : DLink} (h : l[k]? = some x) : ftC (l.take (k + 1)) = ftC (l.take k) ++ ftK x := by
  rw [take_next h]; unfold ftC
  rw [List.flatMap_append]; simp
theorem ftC_len (l : List DLink) : (ftC l).length ≤ 2 * l.length := by
  induction l with
  | nil => simp [ftC]
  | cons x l ih =>
    have h1 := ftK_len x
    unfold ftC at *
    rw [List.flatMap_cons, List.length_append, List.length_cons]
    omega
theorem ftC_len_take (l : List DLink) (k : Nat) : (ftC (l.take k)).length ≤ 2 * k := by
  have := ftC_len (l.take k)
  rw [List.length_take] at this
  omega
theorem ftC_nil {l : List DLink} : ftC l = [] ↔ l = [] := by
  constructor
  · intro h
    cases l with
    | nil => rfl
    | cons x l =>
      unfold ftC at h
      rw [List.flatMap_cons, List.append_eq_nil_iff] at h
      exact absurd h.1 (ftK_pos x)
  · rintro rfl; rfl
theorem ft_same {x : DLink} (h : (x.In.toNat : Int) = (x.Out.toNat : Int)) : ftK x = [byt (x.In.toNat : Int)] := by
  rw [byt_u8]; unfold ftK; rw [if_pos ((u8_eq _ _).1 h)]
theorem ft_put {x : DLink} (h : ¬ (x.In.toNat : Int) = (x.Out.toNat : Int)) (h0 : (x.In.toNat : Int) = 0) : ftK x = [43, byt (x.Out.toNat : Int)] := by
  rw [byt_u8]; unfold ftK; rw [if_neg (fun e => h ((u8_eq _ _).2 e)), if_pos ((u8_zero _).1 h0)]
theorem ft_away {x : DLink} (h : ¬ (x.In.toNat : Int) = 0) (h0 : (x.Out.toNat : Int) = 0) : ftK x = [45, byt (x.In.toNat : Int)] := by
  rw [byt_u8]; unfold ftK; rw [if_neg (fun e => h (by rw [e]; exact h0)), if_neg (fun e => h ((u8_zero _).2 e)), if_pos ((u8_zero _).1 h0)]
theorem ft_voice {x : DLink} (h : ¬ (x.In.toNat : Int) = (x.Out.toNat : Int)) (h1 : ¬ (x.In.toNat : Int) = 0) (h2 : ¬ (x.Out.toNat : Int) = 0) : ftK x = [42, byt (x.In.toNat : Int)] := by
  rw [byt_u8]; unfold ftK; rw [if_neg (fun e => h ((u8_eq _ _).2 e)), if_neg (fun e => h1 ((u8_zero _).2 e)), if_neg (fun e => h2 ((u8_zero _).2 e))]
theorem ok_put {x : DLink} (h : okL x = true) (h0 : (x.In.toNat : Int) = 0) : ¬ (x.In.toNat : Int) = (x.Out.toNat : Int) := by
  intro e
  unfold okL okI at h
  rw [if_pos h0, ← e, h0] at h
  exact absurd h (by decide)
/-- The link that a sign makes of a sound. -/
def edL (b k : UInt8) : DLink := if k = 43 then ⟨0, b⟩ else if k = 45 then ⟨b, 0⟩ else if k = 42 then ⟨b, byt (swapV (b.toNat : Int))⟩ else ⟨b, b⟩
/-- Reading as the program does: a sign, and what is read so far. -/
def rdK (st : UInt8 × List DLink) (b : UInt8) : UInt8 × List DLink := if isSnd (b.toNat : Int) then (0, st.2 ++ [edL b st.1]) else (b, st.2)
def rdT (s : List UInt8) : UInt8 × List DLink := s.foldl rdK (0, [])
theorem ftK_rd {x : DLink} (h : okL x = true) (acc : List DLink) : (ftK x).foldl rdK (0, acc) = (0, acc ++ [x]) := by
  obtain ⟨a, b⟩ := x
  unfold okL okI at h
  unfold ftK
  simp only at h ⊢
  by_cases hab : a = b
  · subst hab
    rw [if_pos rfl]
    have hs : isSnd (a.toNat : Int) = true := by
      by_cases h0 : (a.toNat : Int) = 0
      · rwa [if_pos h0] at h
      · rwa [if_neg h0, if_pos (Or.inr rfl)] at h
    simp [rdK, hs, edL]
  · rw [if_neg hab]
    by_cases h0 : a = 0
    · subst h0
      rw [if_pos rfl]
      rw [if_pos (by rfl)] at h
      have e1 : isSnd ((43 : UInt8).toNat : Int) = false := by decide
      simp only [List.foldl_cons, List.foldl_nil, rdK, e1, h]
      simp [edL]
    · have h0' : ¬ (a.toNat : Int) = 0 := fun e => h0 ((u8_zero _).1 e)
      rw [if_neg h0, if_neg h0'] at *
      by_cases hb : b = 0
      · subst hb
        have hz : (((0 : UInt8).toNat : Nat) : Int) = 0 := rfl
        rw [if_pos rfl]
        rw [if_pos (Or.inl hz)] at h
        have e1 : isSnd ((45 : UInt8).toNat : Int) = false := by decide
        simp only [List.foldl_cons, List.foldl_nil, rdK, e1, h]
        simp [edL]
      · have hb' : ¬ (b.toNat : Int) = 0 := fun e => hb ((u8_zero _).1 e)
        have hab' : ¬ (b.toNat : Int) = (a.toNat : Int) := fun e => hab ((u8_eq _ _).1 e).symm
        rw [if_neg hb]
        rw [if_neg (by rintro (e | e); exact hb' e; exact hab' e), Bool.and_eq_true] at h
        have hsw : (b.toNat : Int) = swapV (a.toNat : Int) := by simpa using h.2
        have hs : isSnd (a.toNat : Int) = true := by
          rcases isObs_cases _ h.1 with e | e | e | e <;> rw [e] <;> decide
        have e1 : isSnd ((42 : UInt8).toNat : Int) = false := by decide
        simp only [List.foldl_cons, List.foldl_nil, rdK, e1, hs]
        simp [edL, ← hsw, byt_u8]
theorem ftC_rd {l : List DLink} (h : ∀ x ∈ l, okL x = true) (acc : List DLink) : (ftC l).foldl rdK (0, acc) = (0, acc ++ l) := by
  induction l generalizing acc with
  | nil => simp [ftC]
  | cons x l ih =>
    have : ftC (x :: l) = ftK x ++ ftC l := by unfold ftC; rw [List.flatMap_cons]
    rw [this, List.foldl_append, ftK_rd (h x (by simp)), ih (fun y hy => h y (by simp [hy]))]
    simp
theorem rdT_step (s : List UInt8) (k : Nat) {b : UInt8} (h : s[k]? = some b) : rdT (s.take (k + 1)) = rdK (rdT (s.take k)) b := by
  rw [take_next h]; unfold rdT; rw [List.foldl_append]; rfl
theorem rdK_len (st : UInt8 × List DLink) (b : UInt8) : st.2.length ≤ (rdK st b).2.length := by
  unfold rdK; split <;> simp
theorem fold_len (s : List UInt8) : ∀ st : UInt8 × List DLink, st.2.length ≤ (s.foldl rdK st).2.length := by
  induction s with
  | nil => intro st; simp
  | cons b s ih => intro st; exact Nat.le_trans (rdK_len st b) (ih _)
theorem rdT_len (s : List UInt8) (k : Nat) : (rdT (s.take k)).2.length ≤ (rdT s).2.length := by
  have : rdT s = (s.drop k).foldl rdK (rdT (s.take k)) := by
    unfold rdT; rw [← List.foldl_append, List.take_append_drop]
  rw [this]; exact fold_len _ _
/-- Reading as the model does. -/
def rdM : List UInt8 → Option (List DLink)
  | [] => some []
  | [k] => if k = 43 ∨ k = 45 ∨ k = 42 then none else some [⟨k, k⟩]
  | k :: b :: t => if k = 43 ∨ k = 45 ∨ k = 42 then (rdM t).map (edL b k :: ·) else (rdM (b :: t)).map ((⟨k, k⟩ : DLink) :: ·)
theorem rdM_plain {k : UInt8} (h : ¬ (k = 43 ∨ k = 45 ∨ k = 42)) (t : List UInt8) : rdM (k :: t) = (rdM t).map ((⟨k, k⟩ : DLink) :: ·) := by
  cases t with
  | nil => simp [rdM, h]
  | cons b t => rw [rdM, if_neg h]
theorem rdM_sign {k : UInt8} (h : k = 43 ∨ k = 45 ∨ k = 42) (b : UInt8) (t : List UInt8) : rdM (k :: b :: t) = (rdM t).map (edL b k :: ·) := by
  rw [rdM, if_pos h]
theorem rdM_end {k : UInt8} (h : k = 43 ∨ k = 45 ∨ k = 42) : rdM [k] = none := by
  rw [rdM, if_pos h]
theorem snd_sign {b : UInt8} (h : isSnd (b.toNat : Int) = true) : ¬ (b = 43 ∨ b = 45 ∨ b = 42) := by
  rintro (rfl | rfl | rfl) <;> exact absurd h (by decide)
theorem ftK_rdM {x : DLink} (h : okL x = true) (t : List UInt8) : rdM (ftK x ++ t) = (rdM t).map (x :: ·) := by
  obtain ⟨a, b⟩ := x
  unfold okL okI at h
  unfold ftK
  simp only at h ⊢
  by_cases hab : a = b
  · subst hab
    rw [if_pos rfl]
    have hs : isSnd (a.toNat : Int) = true := by
      by_cases h0 : (a.toNat : Int) = 0
      · rwa [if_pos h0] at h
      · rwa [if_neg h0, if_pos (Or.inr rfl)] at h
    exact rdM_plain (snd_sign hs) t
  · rw [if_neg hab]
    by_cases h0 : a = 0
    · subst h0
      rw [if_pos rfl]
      exact rdM_sign (by simp) b t
    · have h0' : ¬ (a.toNat : Int) = 0 := fun e => h0 ((u8_zero _).1 e)
      rw [if_neg h0, if_neg h0'] at *
      by_cases hb : b = 0
      · subst hb
        rw [if_pos rfl]
        have := rdM_sign (k := 45) (by simp) a t
        simpa [edL] using this
      · have hb' : ¬ (b.toNat : Int) = 0 := fun e => hb ((u8_zero _).1 e)
        have hab' : ¬ (b.toNat : Int) = (a.toNat : Int) := fun e => hab ((u8_eq _ _).1 e).symm
        rw [if_neg hb]
        rw [if_neg (by rintro (e | e); exact hb' e; exact hab' e), Bool.and_eq_true] at h
        have hsw : (b.toNat : Int) = swapV (a.toNat : Int) := by simpa using h.2
        have := rdM_sign (k := 42) (by simp) a t
        simpa [edL, ← hsw, byt_u8] using this
theorem ftC_rdM {l : List DLink} (h : ∀ x ∈ l, okL x = true) : rdM (ftC l) = some l := by
  induction l with
  | nil => rfl
  | cons x l ih =>
    have : ftC (x :: l) = ftK x ++ ftC l := by unfold ftC; rw [List.flatMap_cons]
    rw [this, ftK_rdM (h x (by simp)), ih (fun y hy => h y (by simp [hy]))]
    rfl
/-- What is read back, by both. -/
def prP (s : List UInt8) : Option (List DLink) := if s = noneB then some [] else if (rdT s).2.length ≤ 16 ∧ fmtC (rdT s).2 = s then some (rdT s).2 else none
def prM (s : List UInt8) : Option (List DLink) := if s = noneB then some [] else (rdM s).bind fun l => if fmtC l = s ∧ s ≠ [] then some l else none
theorem fmt_full {l : List DLink} {s : List UInt8} (hn : s ≠ noneB) (hs : s ≠ []) (h : fmtC l = s) : isCd l = true ∧ ftC l = s := by
  unfold fmtC at h
  cases hc : isCd l with
  | false => rw [hc] at h; exact absurd h.symm hs
  | true =>
    rw [hc, if_pos rfl] at h
    by_cases hl : l = []
    · rw [if_pos hl] at h; exact absurd h.symm hn
    · rw [if_neg hl] at h; exact ⟨rfl, h⟩
theorem fmt_back {l : List DLink} {s : List UInt8} (hs : s ≠ []) (hc : isCd l = true) (h : ftC l = s) : fmtC l = s := by
  unfold fmtC
  have hl : ¬ l = [] := fun e => hs (by rw [← h]; exact ftC_nil.2 e)
  rw [hc, if_pos rfl, if_neg hl, h]
theorem prP_iff {s : List UInt8} (hn : s ≠ noneB) (l : List DLink) : prP s = some l ↔ (s ≠ [] ∧ isCd l = true ∧ ftC l = s) := by
  unfold prP
  rw [if_neg hn]
  constructor
  · intro h
    split at h
    · rename_i hh
      cases h
      have hs : s ≠ [] := by
        rintro rfl
        exact absurd hh.2 (by decide)
      exact ⟨hs, fmt_full hn hs hh.2⟩
    · cases h
  · rintro ⟨hs, hc, hf⟩
    have hr : rdT s = (0, l) := by
      rw [← hf]; unfold rdT
      rw [ftC_rd (fun x hx => isCd_ok hc hx)]; rfl
    rw [hr]
    simp only
    rw [if_pos ⟨isCd_len hc, fmt_back hs hc hf⟩]
theorem prM_iff {s : List UInt8} (hn : s ≠ noneB) (l : List DLink) : prM s = some l ↔ (s ≠ [] ∧ isCd l = true ∧ ftC l = s) := by
  unfold prM
  rw [if_neg hn]
  constructor
  · intro h
    rw [Option.bind_eq_some_iff] at h
    obtain ⟨m, hm, h⟩ := h
    split at h
    · rename_i hh
      cases h
      exact ⟨hh.2, fmt_full hn hh.2 hh.1⟩
    · cases h
  · rintro ⟨hs, hc, hf⟩
    have hr : rdM s = some l := by rw [← hf]; exact ftC_rdM (fun x hx => isCd_ok hc hx)
    rw [hr, Option.bind_some, if_pos ⟨fmt_back hs hc hf, hs⟩]
theorem prM_eq (s : List UInt8) : prM s = prP s := by
  by_cases hn : s = noneB
  · unfold prM prP; rw [if_pos hn, if_pos hn]
  · cases h : prP s with
    | some l => exact (prM_iff hn l).2 ((prP_iff hn l).1 h)
    | none =>
      cases h2 : prM s with
      | none => rfl
      | some l => rw [(prP_iff hn l).2 ((prM_iff hn l).1 h2)] at h; cases h
/-- The links of a form that is kept as it is. -/
def faith (s : List UInt8) : List DLink := s.map fun b => ⟨b, b⟩
def faC (s : ByteArray) : List DLink := if isFm s then faith s.data.toList else []
end Go.Proofs.Ytfcmhbbeohhjmaa
