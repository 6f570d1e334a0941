/- Merged: M8 Cd M9 Sv N1 App Mc1 Mc2 Mv10. -/
import Derived.Test.YtcgmlhlnkbjfnaaDoorQ2
import Derived.Test.YtcgmlhlnkbjfnaaDoorQ1
/- Marks of forms: plain mathematics: neighbours in a form with its edges, counted. -/
namespace Go.Proofs.YtcgmlhlnkbjfnaaDoor
set_option maxRecDepth 100000
open Go.RowKit M

/-- How many below j meet p. -/
def cntP (p : Nat → Bool) (j : Nat) : Nat := ((List.range j).filter p).length
theorem cntP_le (p : Nat → Bool) (j : Nat) : cntP p j ≤ j := Nat.le_trans (List.length_filter_le _ _) (by simp)
theorem cntP_zero (p : Nat → Bool) : cntP p 0 = 0 := rfl
theorem cntP_yes (p : Nat → Bool) (j : Nat) (h : p j = true) : cntP p (j + 1) = cntP p j + 1 := by
  unfold cntP; rw [List.range_succ, List.filter_append]; simp [h]
theorem cntP_no (p : Nat → Bool) (j : Nat) (h : p j = false) : cntP p (j + 1) = cntP p j := by
  unfold cntP; rw [List.range_succ, List.filter_append]; simp [h]
theorem cntP_succ (p : Nat → Bool) (j : Nat) : cntP p (j + 1) = cntP p j + (if p j = true then 1 else 0) := by
  cases h : p j with
  | true => rw [cntP_yes p j h]; simp
  | false => rw [cntP_no p j h]; simp
theorem cntP_congr {p q : Nat → Bool} : ∀ {j : Nat}, (∀ k, k < j → p k = q k) → cntP p j = cntP q j
  | 0, _ => rfl
  | j + 1, h => by
    rw [cntP_succ, cntP_succ, cntP_congr fun k hk => h k (by omega), h j (by omega)]
theorem cntP_shift (p : Nat → Bool) : ∀ n, cntP p (n + 1) = (if p 0 = true then 1 else 0) + cntP (fun k => p (k + 1)) n
  | 0 => by rw [cntP_succ, cntP_zero, cntP_zero]; omega
  | n + 1 => by rw [cntP_succ, cntP_shift p n, cntP_succ (fun k => p (k + 1)) n]; omega
theorem cntP_none {p : Nat → Bool} {j : Nat} (h : ∀ k, k < j → p k = false) : cntP p j = 0 := by
  induction j with
  | zero => rfl
  | succ j ih => rw [cntP_no p j (h j (by omega)), ih fun k hk => h k (by omega)]
/-- The k-th byte with the edges of the form among them. -/
def eB (s : ByteArray) : Nat → Int
  | 0 => 0
  | k + 1 => bAt s k
theorem eB_zero (s : ByteArray) : eB s 0 = 0 := rfl
theorem eB_succ (s : ByteArray) (k : Nat) : eB s (k + 1) = bAt s k := rfl
theorem bAt_out (s : ByteArray) (k : Nat) (h : s.size ≤ k) : bAt s k = 0 := by
  unfold bAt
  rw [List.getD_eq_getElem?_getD, List.getElem?_eq_none (by simpa using h)]
  rfl
theorem bAt_range (s : ByteArray) (k : Nat) : 0 ≤ bAt s k ∧ bAt s k < 256 := by
  unfold bAt
  generalize s.data.toList.getD k 0 = b
  exact ⟨by omega, by have := b.toNat_lt; omega⟩
theorem eB_range (s : ByteArray) (k : Nat) : 0 ≤ eB s k ∧ eB s k < 256 := by
  cases k with
  | zero => rw [eB_zero]; exact ⟨by omega, by omega⟩
  | succ k => exact bAt_range s k
def consB (x : Int) : Bool := isSnd x && !hasF x 0
def vowB (x : Int) : Bool := hasF x 0
def nasB (x : Int) : Bool := hasF x 2
def vobB (x : Int) : Bool := isObs x && hasF x 1
def vlsB (x : Int) : Bool := isObs x && !hasF x 1
def edgB (x : Int) : Bool := x == 0
def anyB (_ : Int) : Bool := true
def nconsB (x : Int) : Bool := !consB x
def nvowB (x : Int) : Bool := !vowB x
/-- The k-th neighbours meet both. -/
def mkAt (P Q : Int → Bool) (s : ByteArray) (k : Nat) : Bool := P (eB s k) && Q (eB s (k + 1))
/-- The marks of a form. -/
def mkC (P Q : Int → Bool) (s : ByteArray) : Nat := if isFm s = true then cntP (mkAt P Q s) (s.size + 1) else 0
theorem mkC_no (P Q : Int → Bool) (s : ByteArray) (h : isFm s = false) : mkC P Q s = 0 := by unfold mkC; rw [h]; rfl
theorem mkC_in (P Q : Int → Bool) (s : ByteArray) (h : isFm s = true) : mkC P Q s = cntP (mkAt P Q s) (s.size + 1) := by unfold mkC; rw [h]; rfl
theorem mkC_le (P Q : Int → Bool) (s : ByteArray) : mkC P Q s ≤ 9 := by
  unfold mkC
  split
  · next h => exact Nat.le_trans (cntP_le _ _) (by have := isFm_size h; omega)
  · omega
theorem isFm_snd {s : ByteArray} (h : isFm s = true) (k : Nat) (hk : k < s.size) : isSnd (bAt s k) = true := by
  cases hn : isSnd (bAt s k) with
  | true => rfl
  | false =>
    rw [← bAt_in s k hk] at hn
    unfold isFm at h
    rw [l2S_not k hk hn] at h
    simp at h
theorem snd_range {x : Int} (h : isSnd x = true) : 0 ≤ x ∧ x < 256 := by
  unfold isSnd at h
  simp at h
  omega
theorem cons_snd {x : Int} (h : isSnd x = true) : consB x = !vowB x := by unfold consB vowB; rw [h]; simp
theorem cons_zero : consB 0 = false := by decide
theorem vow_zero : vowB 0 = false := by decide
theorem nas_zero : nasB 0 = false := by decide
theorem vob_zero : vobB 0 = false := by decide
theorem vls_zero : vlsB 0 = false := by decide
theorem edge_snd {x : Int} (h : isSnd x = true) : edgB x = false := by
  unfold isSnd at h; unfold edgB
  simp at h ⊢; omega
/-- The spec's own counting, one sound at a time, is that of the neighbours. -/
def onsP (s : ByteArray) (k : Nat) : Bool := vowAt s (k : Int) && (decide ((k : Int) = 0) || vowAt s ((k : Int) - 1))
def codP (s : ByteArray) (k : Nat) : Bool := !vowAt s (k : Int) && !vowAt s ((k : Int) + 1)
def cluP (s : ByteArray) (k : Nat) : Bool := decide (1 ≤ k) && (!vowAt s ((k : Int) - 1) && !vowAt s (k : Int))
def voiP (s : ByteArray) (k : Nat) : Bool := vobB (bAt s k)
def nasP (s : ByteArray) (k : Nat) : Bool := decide (1 ≤ k) && (hasF (bAt s (k - 1)) 2 && (isObs (bAt s k) && !hasF (bAt s k) 1))
theorem vowAt_vow (s : ByteArray) (k : Nat) : vowAt s (k : Int) = vowB (bAt s k) := by
  by_cases h : k < s.size
  · exact vowAt_in s k h
  · rw [bAt_out s k (by omega), vow_zero]
    unfold vowAt
    have : decide ((k : Int) < (s.size : Int)) = false := by simp; omega
    rw [this]; simp
theorem edge_last (P Q : Int → Bool) (s : ByteArray) (hQ : Q 0 = false) : cntP (mkAt P Q s) (s.size + 1) = cntP (mkAt P Q s) s.size := by
  refine cntP_no _ _ ?_
  unfold mkAt
  rw [eB_succ, bAt_out s s.size (Nat.le_refl _), hQ, Bool.and_false]
theorem ons_mk (s : ByteArray) (h : isFm s = true) : cntP (onsP s) s.size = mkC nconsB vowB s := by
  rw [mkC_in _ _ _ h, edge_last _ _ _ vow_zero]
  refine cntP_congr fun k hk => ?_
  unfold onsP mkAt nconsB
  rw [vowAt_vow, eB_succ, Bool.and_comm]
  cases k with
  | zero => simp [eB_zero, cons_zero]
  | succ k =>
    rw [show ((k + 1 : Nat) : Int) - 1 = (k : Int) by omega, vowAt_vow, eB_succ, cons_snd (isFm_snd h k (by omega)), Bool.not_not]
    have : decide (((k + 1 : Nat) : Int) = 0) = false := by simp; omega
    rw [this, Bool.false_or]
theorem cod_mk (s : ByteArray) (h : isFm s = true) : cntP (codP s) s.size = mkC consB nvowB s := by
  rw [mkC_in _ _ _ h, cntP_shift]
  have h0 : mkAt consB nvowB s 0 = false := by unfold mkAt; rw [eB_zero, cons_zero, Bool.false_and]
  rw [h0]
  simp only [Bool.false_eq_true, if_false, Nat.zero_add]
  refine cntP_congr fun k hk => ?_
  unfold codP mkAt nvowB
  rw [vowAt_vow, show (k : Int) + 1 = ((k + 1 : Nat) : Int) by omega, vowAt_vow, eB_succ, eB_succ, cons_snd (isFm_snd h k hk)]
theorem clu_mk (s : ByteArray) (h : isFm s = true) : cntP (cluP s) s.size = mkC consB consB s := by
  rw [mkC_in _ _ _ h, edge_last _ _ _ cons_zero]
  refine cntP_congr fun k hk => ?_
  unfold cluP mkAt
  cases k with
  | zero => simp [eB_zero, cons_zero]
  | succ k =>
    rw [show ((k + 1 : Nat) : Int) - 1 = (k : Int) by omega, vowAt_vow, vowAt_vow, eB_succ, eB_succ, cons_snd (isFm_snd h k (by omega)), cons_snd (isFm_snd h (k + 1) hk)]
    simp
theorem voi_mk (s : ByteArray) (h : isFm s = true) : cntP (voiP s) s.size = mkC anyB vobB s := by
  rw [mkC_in _ _ _ h, edge_last _ _ _ vob_zero]
  refine cntP_congr fun k hk => ?_
  unfold voiP mkAt anyB
  rw [eB_succ, Bool.true_and]
theorem nas_mk (s : ByteArray) (h : isFm s = true) : cntP (nasP s) s.size = mkC nasB vlsB s := by
  rw [mkC_in _ _ _ h, edge_last _ _ _ vls_zero]
  refine cntP_congr fun k hk => ?_
  unfold nasP mkAt
  cases k with
  | zero => simp [eB_zero, nas_zero]
  | succ k =>
    rw [eB_succ, eB_succ, Nat.add_sub_cancel]
    simp [nasB, vlsB]
theorem fin_mk (s : ByteArray) (h : isFm s = true) : mkC vobB edgB s = if vobB (eB s s.size) = true then 1 else 0 := by
  rw [mkC_in _ _ _ h, cntP_succ, cntP_none]
  · unfold mkAt
    rw [eB_succ, bAt_out s s.size (Nat.le_refl _)]
    have : edgB 0 = true := by decide
    rw [this, Bool.and_true, Nat.zero_add]
  · intro k hk
    unfold mkAt
    rw [eB_succ, edge_snd (isFm_snd h k hk), Bool.and_false]
theorem fin_empty (s : ByteArray) (h : s.size = 0) : vobB (eB s s.size) = false := by rw [h, eB_zero, vob_zero]
/-- A form without marks of five kinds. -/
def perf (s : ByteArray) : Bool := isFm s && ((mkC nconsB vowB s : Int) + (mkC consB nvowB s : Int) + (mkC consB consB s : Int) + (mkC anyB vobB s : Int) + (mkC nasB vlsB s : Int) == 0)
end Go.Proofs.YtcgmlhlnkbjfnaaDoor

/- Candidates: plain mathematics: valid links, both sides, edits, the text, and how a text is read back. -/
namespace Go.Proofs.YtcgmlhlnkbjfnaaDoor
set_option maxRecDepth 100000
open Go.RowKit M
set_option linter.unusedVariables false
set_option linter.unusedSimpArgs false

theorem u8_zero (b : UInt8) : ((b.toNat : Int) = 0) ↔ b = 0 := by
  constructor
  · intro h; apply UInt8.toNat_inj.1; simp; omega
  · rintro rfl; rfl
theorem u8_eq (a b : UInt8) : ((a.toNat : Int) = (b.toNat : Int)) ↔ a = b := by
  constructor
  · intro h; apply UInt8.toNat_inj.1; omega
  · rintro rfl; rfl
theorem byt_u8 (b : UInt8) : byt (b.toNat : Int) = b := by
  apply UInt8.toNat_inj.1
  have := b.toNat_lt
  have := byt_toNat (b.toNat : Int) (by omega) (by omega)
  omega
theorem u8_in (b : UInt8) : 0 ≤ (b.toNat : Int) ∧ (b.toNat : Int) < 256 := ⟨by omega, by have := b.toNat_lt; omega⟩
/-- Whether a link with these sides is one that a candidate may have. -/
def okI (a b : Int) : Bool := if a = 0 then isSnd b else if b = 0 ∨ b = a then isSnd a else isObs a && decide (b = swapV a)
/-- The same as the model asks it. -/
def okM (a b : Int) : Bool := !((!decide (a = 0) && !isSnd a) || (!decide (b = 0) && !isSnd b) || (decide (a = 0) && decide (b = 0))) && !(!decide (a = 0) && !decide (b = 0) && !decide (a = b) && !(isObs a && decide (swapV a = b)))
theorem isSnd_zero : isSnd 0 = false := by decide
theorem isObs_cases (a : Int) : isObs a = true → a = 112 ∨ a = 116 ∨ a = 98 ∨ a = 100 := by
  unfold isObs; simp; omega
theorem okM_eq (a b : Int) : okM a b = okI a b := by
  unfold okM okI
  by_cases ha : a = 0
  · subst ha
    by_cases hb : b = 0
    · subst hb; simp [isSnd_zero]
    · simp [hb]
  · by_cases hb : b = 0
    · subst hb; simp [ha, isSnd_zero]
    · by_cases hab : b = a
      · subst hab; simp [ha]
      · have hab' : ¬ a = b := fun h => hab h.symm
        cases ho : isObs a with
        | false => simp [ha, hb, hab, hab']
        | true =>
          by_cases hs : swapV a = b
          · subst hs
            rcases isObs_cases a ho with rfl | rfl | rfl | rfl <;> decide
          · have hs' : ¬ b = swapV a := fun h => hs h.symm
            simp [ha, hb, hab, hab', hs, hs']
def okL (x : DLink) : Bool := okI (x.In.toNat : Int) (x.Out.toNat : Int)
/-- The sounds In, the sounds Out. -/
def inL (l : List DLink) : List UInt8 := (l.map (·.In)).filter (fun b => !decide (b = 0))
def outL (l : List DLink) : List UInt8 := (l.map (·.Out)).filter (fun b => !decide (b = 0))
def edits (l : List DLink) : Nat := (l.filter fun x => !decide (x.In = x.Out)).length
def isCd (l : List DLink) : Bool := l.all okL && (decide ((l.length : Int) ≤ 16) && (isFm ⟨(inL l).toArray⟩ && isFm ⟨(outL l).toArray⟩))
theorem take_next {α : Type} {l : List α} {k : Nat} {x : α} (h : l[k]? = some x) : l.take (k + 1) = l.take k ++ [x] := by
  rw [List.take_add_one, h]; rfl
theorem inL_yes {l : List DLink} {k : Nat} {x : DLink} (h : l[k]? = some x) (hx : ¬ (x.In.toNat : Int) = 0) : inL (l.take (k + 1)) = inL (l.take k) ++ [byt (x.In.toNat : Int)] := by
  have h0 : ¬ x.In = 0 := fun e => hx ((u8_zero _).2 e)
  rw [byt_u8, take_next h]; unfold inL
  simp [h0]
theorem inL_no {l : List DLink} {k : Nat} {x : DLink} (h : l[k]? = some x) (hx : (x.In.toNat : Int) = 0) : inL (l.take (k + 1)) = inL (l.take k) := by
  have h0 : x.In = 0 := (u8_zero _).1 hx
  rw [take_next h]; unfold inL
  simp [h0]
theorem outL_yes {l : List DLink} {k : Nat} {x : DLink} (h : l[k]? = some x) (hx : ¬ (x.Out.toNat : Int) = 0) : outL (l.take (k + 1)) = outL (l.take k) ++ [byt (x.Out.toNat : Int)] := by
  have h0 : ¬ x.Out = 0 := fun e => hx ((u8_zero _).2 e)
  rw [byt_u8, take_next h]; unfold outL
  simp [h0]
theorem outL_no {l : List DLink} {k : Nat} {x : DLink} (h : l[k]? = some x) (hx : (x.Out.toNat : Int) = 0) : outL (l.take (k + 1)) = outL (l.take k) := by
  have h0 : x.Out = 0 := (u8_zero _).1 hx
  rw [take_next h]; unfold outL
  simp [h0]
theorem inL_len (l : List DLink) (k : Nat) : (inL (l.take k)).length ≤ k := by
  unfold inL
  refine Nat.le_trans (List.length_filter_le _ _) ?_
  simp; omega
theorem outL_len (l : List DLink) (k : Nat) : (outL (l.take k)).length ≤ k := by
  unfold outL
  refine Nat.le_trans (List.length_filter_le _ _) ?_
  simp; omega
theorem inL_len_all (l : List DLink) : (inL l).length ≤ l.length := by
  have := inL_len l l.length; rwa [List.take_length] at this
theorem outL_len_all (l : List DLink) : (outL l).length ≤ l.length := by
  have := outL_len l l.length; rwa [List.take_length] at this
theorem edits_yes {l : List DLink} {k : Nat} {x : DLink} (h : l[k]? = some x) (hx : ¬ (x.In.toNat : Int) = (x.Out.toNat : Int)) : edits (l.take (k + 1)) = edits (l.take k) + 1 := by
  have h0 : ¬ x.In = x.Out := fun e => hx ((u8_eq _ _).2 e)
  rw [take_next h]; unfold edits
  rw [List.filter_append]
  simp [h0]
theorem edits_no {l : List DLink} {k : Nat} {x : DLink} (h : l[k]? = some x) (hx : (x.In.toNat : Int) = (x.Out.toNat : Int)) : edits (l.take (k + 1)) = edits (l.take k) := by
  have h0 : x.In = x.Out := (u8_eq _ _).1 hx
  rw [take_next h]; unfold edits
  rw [List.filter_append]
  simp [h0]
theorem edits_len (l : List DLink) (k : Nat) : edits (l.take k) ≤ k := by
  unfold edits
  refine Nat.le_trans (List.length_filter_le _ _) ?_
  simp; omega
theorem isCd_not {l : List DLink} {k : Nat} {x : DLink} (h : l[k]? = some x) (hx : okI (x.In.toNat : Int) (x.Out.toNat : Int) = false) : isCd l = false := by
  unfold isCd
  have : l.all okL = false := by
    rw [List.all_eq_false]
    exact ⟨x, List.mem_of_getElem? h, by unfold okL; rw [hx]; simp⟩
  rw [this, Bool.false_and]
theorem isCd_long {l : List DLink} (h : 16 < l.length) : isCd l = false := by
  unfold isCd
  have : decide ((l.length : Int) ≤ 16) = false := by simp; omega
  rw [this, Bool.false_and, Bool.and_false]
theorem all_ok {l : List DLink} (h : ∀ k x, l[k]? = some x → k < l.length → okI (x.In.toNat : Int) (x.Out.toNat : Int) = true) : l.all okL = true := by
  rw [List.all_eq_true]
  intro x hx
  obtain ⟨k, hk, rfl⟩ := List.getElem_of_mem hx
  exact h k _ (List.getElem?_eq_getElem hk) hk
theorem isCd_len {l : List DLink} (h : isCd l = true) : l.length ≤ 16 := by
  unfold isCd at h; simp at h; omega
theorem isCd_ok {l : List DLink} (h : isCd l = true) {x : DLink} (hx : x ∈ l) : okL x = true := by
  unfold isCd at h
  rw [Bool.and_eq_true] at h
  exact List.all_eq_true.1 h.1 x hx
theorem isCd_nil : isCd [] = true := by decide
/-- The text of a link, of a candidate. -/
def ftK (x : DLink) : List UInt8 := if x.In = x.Out then [x.In] else if x.In = 0 then [43, x.Out] else if x.Out = 0 then [45, x.In] else [42, x.In]
def ftC (l : List DLink) : List UInt8 := l.flatMap ftK
def noneB : List UInt8 := [110, 111, 110, 101]
def fmtC (l : List DLink) : List UInt8 := if isCd l then (if l = [] then noneB else ftC l) else []
theorem ftK_pos (x : DLink) : ftK x ≠ [] := by
  unfold ftK; split <;> (try split) <;> (try split) <;> simp
theorem ftK_len (x : DLink) : (ftK x).length ≤ 2 := by
  unfold ftK; split <;> (try split) <;> (try split) <;> simp
theorem ftC_step {l : List DLink} {k : Nat} {x : DLink} (h : l[k]? = some x) : ftC (l.take (k + 1)) = ftC (l.take k) ++ ftK x := by
  rw [take_next h]; unfold ftC
  rw [List.flatMap_append]; simp
theorem ftC_len (l : List DLink) : (ftC l).length ≤ 2 * l.length := by
  induction l with
  | nil => simp [ftC]
  | cons x l ih =>
    have h1 := ftK_len x
    unfold ftC at *
    rw [List.flatMap_cons, List.length_append, List.length_cons]
    omega
theorem ftC_len_take (l : List DLink) (k : Nat) : (ftC (l.take k)).length ≤ 2 * k := by
  have := ftC_len (l.take k)
  rw [List.length_take] at this
  omega
theorem ftC_nil {l : List DLink} : ftC l = [] ↔ l = [] := by
  constructor
  · intro h
    cases l with
    | nil => rfl
    | cons x l =>
      unfold ftC at h
      rw [List.flatMap_cons, List.append_eq_nil_iff] at h
      exact absurd h.1 (ftK_pos x)
  · rintro rfl; rfl
theorem ft_same {x : DLink} (h : (x.In.toNat : Int) = (x.Out.toNat : Int)) : ftK x = [byt (x.In.toNat : Int)] := by
  rw [byt_u8]; unfold ftK; rw [if_pos ((u8_eq _ _).1 h)]
theorem ft_put {x : DLink} (h : ¬ (x.In.toNat : Int) = (x.Out.toNat : Int)) (h0 : (x.In.toNat : Int) = 0) : ftK x = [43, byt (x.Out.toNat : Int)] := by
  rw [byt_u8]; unfold ftK; rw [if_neg (fun e => h ((u8_eq _ _).2 e)), if_pos ((u8_zero _).1 h0)]
theorem ft_away {x : DLink} (h : ¬ (x.In.toNat : Int) = 0) (h0 : (x.Out.toNat : Int) = 0) : ftK x = [45, byt (x.In.toNat : Int)] := by
  rw [byt_u8]; unfold ftK; rw [if_neg (fun e => h (by rw [e]; exact h0)), if_neg (fun e => h ((u8_zero _).2 e)), if_pos ((u8_zero _).1 h0)]
theorem ft_voice {x : DLink} (h : ¬ (x.In.toNat : Int) = (x.Out.toNat : Int)) (h1 : ¬ (x.In.toNat : Int) = 0) (h2 : ¬ (x.Out.toNat : Int) = 0) : ftK x = [42, byt (x.In.toNat : Int)] := by
  rw [byt_u8]; unfold ftK; rw [if_neg (fun e => h ((u8_eq _ _).2 e)), if_neg (fun e => h1 ((u8_zero _).2 e)), if_neg (fun e => h2 ((u8_zero _).2 e))]
theorem ok_put {x : DLink} (h : okL x = true) (h0 : (x.In.toNat : Int) = 0) : ¬ (x.In.toNat : Int) = (x.Out.toNat : Int) := by
  intro e
  unfold okL okI at h
  rw [if_pos h0, ← e, h0] at h
  exact absurd h (by decide)
/-- The link that a sign makes of a sound. -/
def edL (b k : UInt8) : DLink := if k = 43 then ⟨0, b⟩ else if k = 45 then ⟨b, 0⟩ else if k = 42 then ⟨b, byt (swapV (b.toNat : Int))⟩ else ⟨b, b⟩
/-- Reading as the program does: a sign, and what is read so far. -/
def rdK (st : UInt8 × List DLink) (b : UInt8) : UInt8 × List DLink := if isSnd (b.toNat : Int) then (0, st.2 ++ [edL b st.1]) else (b, st.2)
def rdT (s : List UInt8) : UInt8 × List DLink := s.foldl rdK (0, [])
theorem ftK_rd {x : DLink} (h : okL x = true) (acc : List DLink) : (ftK x).foldl rdK (0, acc) = (0, acc ++ [x]) := by
  obtain ⟨a, b⟩ := x
  unfold okL okI at h
  unfold ftK
  simp only at h ⊢
  by_cases hab : a = b
  · subst hab
    rw [if_pos rfl]
    have hs : isSnd (a.toNat : Int) = true := by
      by_cases h0 : (a.toNat : Int) = 0
      · rwa [if_pos h0] at h
      · rwa [if_neg h0, if_pos (Or.inr rfl)] at h
    simp [rdK, hs, edL]
  · rw [if_neg hab]
    by_cases h0 : a = 0
    · subst h0
      rw [if_pos rfl]
      rw [if_pos (by rfl)] at h
      have e1 : isSnd ((43 : UInt8).toNat : Int) = false := by decide
      simp only [List.foldl_cons, List.foldl_nil, rdK, e1, h]
      simp [edL]
    · have h0' : ¬ (a.toNat : Int) = 0 := fun e => h0 ((u8_zero _).1 e)
      rw [if_neg h0, if_neg h0'] at *
      by_cases hb : b = 0
      · subst hb
        have hz : (((0 : UInt8).toNat : Nat) : Int) = 0 := rfl
        rw [if_pos rfl]
        rw [if_pos (Or.inl hz)] at h
        have e1 : isSnd ((45 : UInt8).toNat : Int) = false := by decide
        simp only [List.foldl_cons, List.foldl_nil, rdK, e1, h]
        simp [edL]
      · have hb' : ¬ (b.toNat : Int) = 0 := fun e => hb ((u8_zero _).1 e)
        have hab' : ¬ (b.toNat : Int) = (a.toNat : Int) := fun e => hab ((u8_eq _ _).1 e).symm
        rw [if_neg hb]
        rw [if_neg (by rintro (e | e); exact hb' e; exact hab' e), Bool.and_eq_true] at h
        have hsw : (b.toNat : Int) = swapV (a.toNat : Int) := by simpa using h.2
        have hs : isSnd (a.toNat : Int) = true := by
          rcases isObs_cases _ h.1 with e | e | e | e <;> rw [e] <;> decide
        have e1 : isSnd ((42 : UInt8).toNat : Int) = false := by decide
        simp only [List.foldl_cons, List.foldl_nil, rdK, e1, hs]
        simp [edL, ← hsw, byt_u8]
theorem ftC_rd {l : List DLink} (h : ∀ x ∈ l, okL x = true) (acc : List DLink) : (ftC l).foldl rdK (0, acc) = (0, acc ++ l) := by
  induction l generalizing acc with
  | nil => simp [ftC]
  | cons x l ih =>
    have : ftC (x :: l) = ftK x ++ ftC l := by unfold ftC; rw [List.flatMap_cons]
    rw [this, List.foldl_append, ftK_rd (h x (by simp)), ih (fun y hy => h y (by simp [hy]))]
    simp
theorem rdT_step (s : List UInt8) (k : Nat) {b : UInt8} (h : s[k]? = some b) : rdT (s.take (k + 1)) = rdK (rdT (s.take k)) b := by
  rw [take_next h]; unfold rdT; rw [List.foldl_append]; rfl
theorem rdK_len (st : UInt8 × List DLink) (b : UInt8) : st.2.length ≤ (rdK st b).2.length := by
  unfold rdK; split <;> simp
theorem fold_len (s : List UInt8) : ∀ st : UInt8 × List DLink, st.2.length ≤ (s.foldl rdK st).2.length := by
  induction s with
  | nil => intro st; simp
  | cons b s ih => intro st; exact Nat.le_trans (rdK_len st b) (ih _)
theorem rdT_len (s : List UInt8) (k : Nat) : (rdT (s.take k)).2.length ≤ (rdT s).2.length := by
  have : rdT s = (s.drop k).foldl rdK (rdT (s.take k)) := by
    unfold rdT; rw [← List.foldl_append, List.take_append_drop]
  rw [this]; exact fold_len _ _
/-- Reading as the model does. -/
def rdM : List UInt8 → Option (List DLink)
  | [] => some []
  | [k] => if k = 43 ∨ k = 45 ∨ k = 42 then none else some [⟨k, k⟩]
  | k :: b :: t => if k = 43 ∨ k = 45 ∨ k = 42 then (rdM t).map (edL b k :: ·) else (rdM (b :: t)).map ((⟨k, k⟩ : DLink) :: ·)
theorem rdM_plain {k : UInt8} (h : ¬ (k = 43 ∨ k = 45 ∨ k = 42)) (t : List UInt8) : rdM (k :: t) = (rdM t).map ((⟨k, k⟩ : DLink) :: ·) := by
  cases t with
  | nil => simp [rdM, h]
  | cons b t => rw [rdM, if_neg h]
theorem rdM_sign {k : UInt8} (h : k = 43 ∨ k = 45 ∨ k = 42) (b : UInt8) (t : List UInt8) : rdM (k :: b :: t) = (rdM t).map (edL b k :: ·) := by
  rw [rdM, if_pos h]
theorem rdM_end {k : UInt8} (h : k = 43 ∨ k = 45 ∨ k = 42) : rdM [k] = none := by
  rw [rdM, if_pos h]
theorem snd_sign {b : UInt8} (h : isSnd (b.toNat : Int) = true) : ¬ (b = 43 ∨ b = 45 ∨ b = 42) := by
  rintro (rfl | rfl | rfl) <;> exact absurd h (by decide)
theorem ftK_rdM {x : DLink} (h : okL x = true) (t : List UInt8) : rdM (ftK x ++ t) = (rdM t).map (x :: ·) := by
  obtain ⟨a, b⟩ := x
  unfold okL okI at h
  unfold ftK
  simp only at h ⊢
  by_cases hab : a = b
  · subst hab
    rw [if_pos rfl]
    have hs : isSnd (a.toNat : Int) = true := by
      by_cases h0 : (a.toNat : Int) = 0
      · rwa [if_pos h0] at h
      · rwa [if_neg h0, if_pos (Or.inr rfl)] at h
    exact rdM_plain (snd_sign hs) t
  · rw [if_neg hab]
    by_cases h0 : a = 0
    · subst h0
      rw [if_pos rfl]
      exact rdM_sign (by simp) b t
    · have h0' : ¬ (a.toNat : Int) = 0 := fun e => h0 ((u8_zero _).1 e)
      rw [if_neg h0, if_neg h0'] at *
      by_cases hb : b = 0
      · subst hb
        rw [if_pos rfl]
        have := rdM_sign (k := 45) (by simp) a t
        simpa [edL] using this
      · have hb' : ¬ (b.toNat : Int) = 0 := fun e => hb ((u8_zero _).1 e)
        have hab' : ¬ (b.toNat : Int) = (a.toNat : Int) := fun e => hab ((u8_eq _ _).1 e).symm
        rw [if_neg hb]
        rw [if_neg (by rintro (e | e); exact hb' e; exact hab' e), Bool.and_eq_true] at h
        have hsw : (b.toNat : Int) = swapV (a.toNat : Int) := by simpa using h.2
        have := rdM_sign (k := 42) (by simp) a t
        simpa [edL, ← hsw, byt_u8] using this
theorem ftC_rdM {l : List DLink} (h : ∀ x ∈ l, okL x = true) : rdM (ftC l) = some l := by
  induction l with
  | nil => rfl
  | cons x l ih =>
    have : ftC (x :: l) = ftK x ++ ftC l := by unfold ftC; rw [List.flatMap_cons]
    rw [this, ftK_rdM (h x (by simp)), ih (fun y hy => h y (by simp [hy]))]
    rfl
/-- What is read back, by both. -/
def prP (s : List UInt8) : Option (List DLink) := if s = noneB then some [] else if (rdT s).2.length ≤ 16 ∧ fmtC (rdT s).2 = s then some (rdT s).2 else none
def prM (s : List UInt8) : Option (List DLink) := if s = noneB then some [] else (rdM s).bind fun l => if fmtC l = s ∧ s ≠ [] then some l else none
theorem fmt_full {l : List DLink} {s : List UInt8} (hn : s ≠ noneB) (hs : s ≠ []) (h : fmtC l = s) : isCd l = true ∧ ftC l = s := by
  unfold fmtC at h
  cases hc : isCd l with
  | false => rw [hc] at h; exact absurd h.symm hs
  | true =>
    rw [hc, if_pos rfl] at h
    by_cases hl : l = []
    · rw [if_pos hl] at h; exact absurd h.symm hn
    · rw [if_neg hl] at h; exact ⟨rfl, h⟩
theorem fmt_back {l : List DLink} {s : List UInt8} (hs : s ≠ []) (hc : isCd l = true) (h : ftC l = s) : fmtC l = s := by
  unfold fmtC
  have hl : ¬ l = [] := fun e => hs (by rw [← h]; exact ftC_nil.2 e)
  rw [hc, if_pos rfl, if_neg hl, h]
theorem prP_iff {s : List UInt8} (hn : s ≠ noneB) (l : List DLink) : prP s = some l ↔ (s ≠ [] ∧ isCd l = true ∧ ftC l = s) := by
  unfold prP
  rw [if_neg hn]
  constructor
  · intro h
    split at h
    · rename_i hh
      cases h
      have hs : s ≠ [] := by
        rintro rfl
        exact absurd hh.2 (by decide)
      exact ⟨hs, fmt_full hn hs hh.2⟩
    · cases h
  · rintro ⟨hs, hc, hf⟩
    have hr : rdT s = (0, l) := by
      rw [← hf]; unfold rdT
      rw [ftC_rd (fun x hx => isCd_ok hc hx)]; rfl
    rw [hr]
    simp only
    rw [if_pos ⟨isCd_len hc, fmt_back hs hc hf⟩]
theorem prM_iff {s : List UInt8} (hn : s ≠ noneB) (l : List DLink) : prM s = some l ↔ (s ≠ [] ∧ isCd l = true ∧ ftC l = s) := by
  unfold prM
  rw [if_neg hn]
  constructor
  · intro h
    rw [Option.bind_eq_some_iff] at h
    obtain ⟨m, hm, h⟩ := h
    split at h
    · rename_i hh
      cases h
      exact ⟨hh.2, fmt_full hn hh.2 hh.1⟩
    · cases h
  · rintro ⟨hs, hc, hf⟩
    have hr : rdM s = some l := by rw [← hf]; exact ftC_rdM (fun x hx => isCd_ok hc hx)
    rw [hr, Option.bind_some, if_pos ⟨fmt_back hs hc hf, hs⟩]
theorem prM_eq (s : List UInt8) : prM s = prP s := by
  by_cases hn : s = noneB
  · unfold prM prP; rw [if_pos hn, if_pos hn]
  · cases h : prP s with
    | some l => exact (prM_iff hn l).2 ((prP_iff hn l).1 h)
    | none =>
      cases h2 : prM s with
      | none => rfl
      | some l => rw [(prP_iff hn l).2 ((prM_iff hn l).1 h2)] at h; cases h
/-- The links of a form that is kept as it is. -/
def faith (s : List UInt8) : List DLink := s.map fun b => ⟨b, b⟩
def faC (s : ByteArray) : List DLink := if isFm s then faith s.data.toList else []
end Go.Proofs.YtcgmlhlnkbjfnaaDoor

/- Faithfulness: plain mathematics: counts of links, breaks, candidates composed. -/
namespace Go.Proofs.YtcgmlhlnkbjfnaaDoor
set_option maxRecDepth 100000
open Go.RowKit M
set_option linter.unusedVariables false
set_option linter.unusedSimpArgs false

/-- The kinds of links. -/
def delK (x : DLink) : Bool := decide ((x.Out.toNat : Int) = 0)
def insK (x : DLink) : Bool := decide ((x.In.toNat : Int) = 0)
def kepK (x : DLink) : Bool := !decide ((x.Out.toNat : Int) = 0) && !decide ((x.In.toNat : Int) = 0)
def vchK (x : DLink) : Bool := kepK x && !decide ((x.In.toNat : Int) = (x.Out.toNat : Int))
def cntL (p : DLink → Bool) (l : List DLink) : Nat := l.countP p
def cntC (p : DLink → Bool) (l : List DLink) : Nat := if isCd l then cntL p l else 0
theorem cntL_step (p : DLink → Bool) {l : List DLink} {k : Nat} {x : DLink} (h : l[k]? = some x) : cntL p (l.take (k + 1)) = cntL p (l.take k) + (if p x then 1 else 0) := by
  unfold cntL
  rw [take_next h, List.countP_append, List.countP_cons, List.countP_nil, Nat.zero_add]
theorem cntL_yes {p : DLink → Bool} {l : List DLink} {k : Nat} {x : DLink} (h : l[k]? = some x) (hp : p x = true) : cntL p (l.take (k + 1)) = cntL p (l.take k) + 1 := by
  rw [cntL_step p h, if_pos hp]
theorem cntL_no {p : DLink → Bool} {l : List DLink} {k : Nat} {x : DLink} (h : l[k]? = some x) (hp : p x = false) : cntL p (l.take (k + 1)) = cntL p (l.take k) := by
  rw [cntL_step p h, if_neg (by simp [hp]), Nat.add_zero]
theorem cntL_le (p : DLink → Bool) (l : List DLink) (k : Nat) : cntL p (l.take k) ≤ k := by
  refine Nat.le_trans List.countP_le_length ?_
  rw [List.length_take]; omega
theorem cntL_nil (p : DLink → Bool) : cntL p [] = 0 := rfl
/-- From the first link that is kept to the last one. -/
def insideL (l : List DLink) : List DLink := (l.take (l.length - l.reverse.findIdx kepK)).drop (l.findIdx kepK)
theorem inside_none {l : List DLink} (h : ∀ (j : Nat) (y : DLink), l[j]? = some y → kepK y = false) : insideL l = [] := by
  have h1 : l.findIdx kepK = l.length := by
    rw [List.findIdx_eq_length]
    intro x hx
    obtain ⟨j, hj, rfl⟩ := List.getElem_of_mem hx
    exact h j _ (List.getElem?_eq_getElem hj)
  unfold insideL
  rw [h1]
  apply List.drop_eq_nil_of_le
  rw [List.length_take]; omega
theorem first_is {l : List DLink} {f : Nat} {x : DLink} (h : l[f]? = some x) (hx : kepK x = true) (hf : ∀ (j : Nat) (y : DLink), j < f → l[j]? = some y → kepK y = false) : l.findIdx kepK = f := by
  obtain ⟨hl, rfl⟩ := List.getElem?_eq_some_iff.1 h
  rw [List.findIdx_eq hl]
  exact ⟨hx, fun j hj => hf j _ hj (List.getElem?_eq_getElem (by omega))⟩
theorem last_is {l : List DLink} {e : Nat} {x : DLink} (h : l[e]? = some x) (hx : kepK x = true) (he : ∀ (j : Nat) (y : DLink), e < j → l[j]? = some y → kepK y = false) : l.length - l.reverse.findIdx kepK = e + 1 := by
  obtain ⟨hl, rfl⟩ := List.getElem?_eq_some_iff.1 h
  have h1 : l.reverse.findIdx kepK = l.length - 1 - e := by
    have hr : l.length - 1 - e < l.reverse.length := by rw [List.length_reverse]; omega
    rw [List.findIdx_eq hr]
    refine ⟨?_, fun j hj => ?_⟩
    · rw [List.getElem_reverse]
      have : l.length - 1 - (l.length - 1 - e) = e := by omega
      simp only [this]
      exact hx
    · rw [List.getElem_reverse]
      exact he _ _ (by omega) (List.getElem?_eq_getElem (by omega))
  rw [h1]; omega
theorem inside_is {l : List DLink} {f e : Nat} {x y : DLink} (hx : l[f]? = some x) (kx : kepK x = true) (hf : ∀ (j : Nat) (z : DLink), j < f → l[j]? = some z → kepK z = false)
    (hy : l[e]? = some y) (ky : kepK y = true) (he : ∀ (j : Nat) (z : DLink), e < j → l[j]? = some z → kepK z = false) : insideL l = (l.take (e + 1)).drop f := by
  unfold insideL
  rw [first_is hx kx hf, last_is hy ky he]
def brkL (l : List DLink) : Nat := (insideL l).countP (fun x => !kepK x)
def brkC (l : List DLink) : Nat := if isCd l then brkL l else 0
theorem brk_none {l : List DLink} (h : ∀ (j : Nat) (y : DLink), l[j]? = some y → kepK y = false) : brkL l = 0 := by
  unfold brkL; rw [inside_none h]; rfl
def spanN (l : List DLink) (f i : Nat) : Nat := ((l.take i).drop f).countP (fun x => !kepK x)
theorem span_zero (l : List DLink) (f : Nat) : spanN l f f = 0 := by
  unfold spanN
  rw [List.drop_eq_nil_of_le (by rw [List.length_take]; omega)]; rfl
theorem span_step {l : List DLink} {f i : Nat} {x : DLink} (h : l[i]? = some x) (hf : f ≤ i) : spanN l f (i + 1) = spanN l f i + (if kepK x then 0 else 1) := by
  unfold spanN
  have hl := (List.getElem?_eq_some_iff.1 h).1
  rw [take_next h, List.drop_append_of_le_length (by rw [List.length_take]; omega), List.countP_append, List.countP_cons, List.countP_nil]
  cases kepK x <;> simp
theorem span_le (l : List DLink) (f i : Nat) : spanN l f i ≤ i := by
  unfold spanN
  refine Nat.le_trans List.countP_le_length ?_
  rw [List.length_drop, List.length_take]; omega
theorem brk_is {l : List DLink} {f e : Nat} {x y : DLink} (hx : l[f]? = some x) (kx : kepK x = true) (hf : ∀ (j : Nat) (z : DLink), j < f → l[j]? = some z → kepK z = false)
    (hy : l[e]? = some y) (ky : kepK y = true) (he : ∀ (j : Nat) (z : DLink), e < j → l[j]? = some z → kepK z = false) (hfe : f ≤ e) : brkL l = spanN l f e := by
  unfold brkL
  rw [inside_is hx kx hf hy ky he]
  have := span_step hy hfe
  rw [if_pos ky, Nat.add_zero] at this
  exact this
/-- In a valid candidate an edit within is either a sound taken away or one put in. -/
theorem nk_split {x : DLink} (h : okL x = true) : (if kepK x then 0 else 1 : Nat) = (if delK x then 1 else 0) + (if insK x then 1 else 0) := by
  unfold kepK delK insK
  by_cases h1 : (x.Out.toNat : Int) = 0
  · by_cases h2 : (x.In.toNat : Int) = 0
    · exact absurd (h2.trans h1.symm) (ok_put h h2)
    · rw [decide_eq_true h1, decide_eq_false h2]; rfl
  · by_cases h2 : (x.In.toNat : Int) = 0
    · rw [decide_eq_false h1, decide_eq_true h2]; rfl
    · rw [decide_eq_false h1, decide_eq_false h2]; rfl
theorem nk_count : ∀ {l : List DLink}, (∀ x ∈ l, okL x = true) → l.countP (fun x => !kepK x) = cntL delK l + cntL insK l := by
  intro l
  induction l with
  | nil => intro _; rfl
  | cons x l ih =>
    intro h
    have h1 := nk_split (h x (by simp))
    have h2 := ih (fun y hy => h y (by simp [hy]))
    unfold cntL at *
    rw [List.countP_cons, List.countP_cons, List.countP_cons, h2]
    cases hk : kepK x <;> rw [hk] at h1 <;> simp at h1 ⊢ <;> omega
theorem inside_mem {l : List DLink} {x : DLink} (h : x ∈ insideL l) : x ∈ l := List.mem_of_mem_take (List.mem_of_mem_drop h)
theorem brk_two {l : List DLink} (h : isCd l = true) : brkL l = cntL delK (insideL l) + cntL insK (insideL l) :=
  nk_count fun x hx => isCd_ok h (inside_mem hx)
/-- Two candidates one after the other, link by link. -/
def compL : List DLink → List DLink → List DLink
  | [], b => b
  | x :: a, [] => if x.Out = 0 then x :: compL a [] else []
  | x :: a, y :: b => if x.Out = 0 then x :: compL a (y :: b) else if y.In = 0 then y :: compL (x :: a) b else if x.In = 0 ∧ y.Out = 0 then compL a b else ⟨x.In, y.Out⟩ :: compL a b
  termination_by a b => a.length + b.length
theorem comp_nil (b : List DLink) : compL [] b = b := by unfold compL; rfl
theorem comp_away {x : DLink} {a b : List DLink} (h : x.Out = 0) : compL (x :: a) b = x :: compL a b := by
  cases b with
  | nil => rw [compL, if_pos h]
  | cons y b => rw [compL, if_pos h]
theorem comp_put {x y : DLink} {a b : List DLink} (h : ¬ x.Out = 0) (hy : y.In = 0) : compL (x :: a) (y :: b) = y :: compL (x :: a) b := by
  rw [compL, if_neg h, if_pos hy]
theorem comp_none {x y : DLink} {a b : List DLink} (h : ¬ x.Out = 0) (hy : ¬ y.In = 0) (hz : x.In = 0 ∧ y.Out = 0) : compL (x :: a) (y :: b) = compL a b := by
  rw [compL, if_neg h, if_neg hy, if_pos hz]
theorem comp_both {x y : DLink} {a b : List DLink} (h : ¬ x.Out = 0) (hy : ¬ y.In = 0) (hz : ¬ (x.In = 0 ∧ y.Out = 0)) : compL (x :: a) (y :: b) = ⟨x.In, y.Out⟩ :: compL a b := by
  rw [compL, if_neg h, if_neg hy, if_neg hz]
theorem inL_cons (x : DLink) (l : List DLink) : inL (x :: l) = if x.In = 0 then inL l else x.In :: inL l := by
  unfold inL; by_cases h : x.In = 0 <;> simp [h]
theorem outL_cons (x : DLink) (l : List DLink) : outL (x :: l) = if x.Out = 0 then outL l else x.Out :: outL l := by
  unfold outL; by_cases h : x.Out = 0 <;> simp [h]
theorem swapV_obs {a : Int} (h : isObs a = true) : isObs (swapV a) = true ∧ swapV (swapV a) = a := by
  rcases isObs_cases a h with rfl | rfl | rfl | rfl <;> decide
/-- What two links do to a sound, one link can do. -/
theorem ok_comp {x y : DLink} (hx : okL x = true) (hy : okL y = true) (ho : ¬ x.Out = 0) (he : x.Out = y.In) (hz : ¬ (x.In = 0 ∧ y.Out = 0)) : okL ⟨x.In, y.Out⟩ = true := by
  obtain ⟨a, b⟩ := x
  obtain ⟨c, d⟩ := y
  simp only at he ho hz
  subst he
  have hb : ¬ (b.toNat : Int) = 0 := fun e => ho ((u8_zero _).1 e)
  unfold okL okI at hx hy ⊢
  simp only at hx hy ⊢
  rw [if_neg hb] at hy
  by_cases ha : (a.toNat : Int) = 0
  · have hd : ¬ (d.toNat : Int) = 0 := fun e => hz ⟨(u8_zero _).1 ha, (u8_zero _).1 e⟩
    rw [if_pos ha] at hx ⊢
    by_cases hdb : (d.toNat : Int) = (b.toNat : Int)
    · rw [hdb]; exact hx
    · rw [if_neg (by rintro (e | e); exact hd e; exact hdb e), Bool.and_eq_true] at hy
      have e1 : (d.toNat : Int) = swapV (b.toNat : Int) := by simpa using hy.2
      rw [e1]
      rcases isObs_cases _ hy.1 with e | e | e | e <;> rw [e] <;> decide
  · rw [if_neg ha] at hx ⊢
    by_cases hba : (b.toNat : Int) = (a.toNat : Int)
    · rw [hba] at hy; exact hy
    · rw [if_neg (by rintro (e | e); exact hb e; exact hba e), Bool.and_eq_true] at hx
      have e1 : (b.toNat : Int) = swapV (a.toNat : Int) := by simpa using hx.2
      have hs := swapV_obs hx.1
      have hsa : isSnd (a.toNat : Int) = true := by
        rcases isObs_cases _ hx.1 with e | e | e | e <;> rw [e] <;> decide
      by_cases hd : (d.toNat : Int) = 0
      · rw [if_pos (Or.inl hd)]; exact hsa
      · by_cases hdb : (d.toNat : Int) = (b.toNat : Int)
        · by_cases hda : (d.toNat : Int) = (a.toNat : Int)
          · rw [if_pos (Or.inr hda)]; exact hsa
          · rw [if_neg (by rintro (e | e); exact hd e; exact hda e), hx.1, Bool.true_and, hdb, e1]; simp
        · rw [if_neg (by rintro (e | e); exact hd e; exact hdb e), Bool.and_eq_true] at hy
          have e2 : (d.toNat : Int) = swapV (b.toNat : Int) := by simpa using hy.2
          rw [e1, hs.2] at e2
          rw [if_pos (Or.inr e2)]; exact hsa
theorem inL_none {b : List DLink} (h : inL b = []) : ∀ y ∈ b, y.In = 0 := by
  intro y hy
  unfold inL at h
  rw [List.filter_eq_nil_iff] at h
  have := h y.In (List.mem_map.2 ⟨y, hy, rfl⟩)
  simpa using this
theorem comp_sides : ∀ (n : Nat) (a b : List DLink), a.length + b.length = n → outL a = inL b → inL (compL a b) = inL a ∧ outL (compL a b) = outL b := by
  intro n
  induction n using Nat.strongRecOn with
  | _ n ih =>
    intro a b hn h
    cases a with
    | nil =>
      rw [comp_nil]
      refine ⟨?_, rfl⟩
      rw [← h]; rfl
    | cons x a =>
      rw [outL_cons] at h
      by_cases hx : x.Out = 0
      · rw [if_pos hx] at h
        have := ih (a.length + b.length) (by simp at hn; omega) a b rfl h
        rw [comp_away hx, inL_cons, outL_cons, inL_cons, if_pos hx, this.1, this.2]
        exact ⟨rfl, rfl⟩
      · rw [if_neg hx] at h
        cases b with
        | nil => cases h
        | cons y b =>
          rw [inL_cons] at h
          by_cases hy : y.In = 0
          · rw [if_pos hy] at h
            have := ih ((x :: a).length + b.length) (by simp at hn ⊢; omega) (x :: a) b rfl (by rw [outL_cons, if_neg hx]; exact h)
            rw [comp_put hx hy, inL_cons, outL_cons, if_pos hy, this.1, this.2, outL_cons]
            exact ⟨rfl, rfl⟩
          · rw [if_neg hy] at h
            injection h with h1 h2
            have := ih (a.length + b.length) (by simp at hn; omega) a b rfl h2
            by_cases hz : x.In = 0 ∧ y.Out = 0
            · rw [comp_none hx hy hz, inL_cons, outL_cons, if_pos hz.1, if_pos hz.2]
              exact this
            · rw [comp_both hx hy hz, inL_cons, outL_cons, inL_cons, outL_cons, this.1, this.2]
              exact ⟨rfl, rfl⟩
theorem comp_ok : ∀ (n : Nat) (a b : List DLink), a.length + b.length = n → outL a = inL b → (∀ x ∈ a, okL x = true) → (∀ x ∈ b, okL x = true) → ∀ x ∈ compL a b, okL x = true := by
  intro n
  induction n using Nat.strongRecOn with
  | _ n ih =>
    intro a b hn h ka kb
    cases a with
    | nil => rw [comp_nil]; exact kb
    | cons x a =>
      rw [outL_cons] at h
      have kx := ka x (by simp)
      have ka' : ∀ z ∈ a, okL z = true := fun z hz => ka z (by simp [hz])
      by_cases hx : x.Out = 0
      · rw [if_pos hx] at h
        have := ih (a.length + b.length) (by simp at hn; omega) a b rfl h ka' kb
        rw [comp_away hx]
        intro z hz
        rcases List.mem_cons.1 hz with rfl | hz
        · exact kx
        · exact this z hz
      · rw [if_neg hx] at h
        cases b with
        | nil => cases h
        | cons y b =>
          have ky := kb y (by simp)
          have kb' : ∀ z ∈ b, okL z = true := fun z hz => kb z (by simp [hz])
          rw [inL_cons] at h
          by_cases hy : y.In = 0
          · rw [if_pos hy] at h
            have := ih ((x :: a).length + b.length) (by simp at hn ⊢; omega) (x :: a) b rfl (by rw [outL_cons, if_neg hx]; exact h) ka kb'
            rw [comp_put hx hy]
            intro z hz
            rcases List.mem_cons.1 hz with rfl | hz
            · exact ky
            · exact this z hz
          · rw [if_neg hy] at h
            injection h with h1 h2
            have := ih (a.length + b.length) (by simp at hn; omega) a b rfl h2 ka' kb'
            by_cases hz : x.In = 0 ∧ y.Out = 0
            · rw [comp_none hx hy hz]; exact this
            · rw [comp_both hx hy hz]
              intro z hm
              rcases List.mem_cons.1 hm with rfl | hm
              · exact ok_comp kx ky hx h1 hz
              · exact this z hm
/-- A valid link leads to a sound or comes from one. -/
theorem len_sides : ∀ {l : List DLink}, (∀ x ∈ l, okL x = true) → l.length ≤ (inL l).length + (outL l).length := by
  intro l
  induction l with
  | nil => intro _; simp
  | cons x l ih =>
    intro h
    have h1 := ih (fun y hy => h y (by simp [hy]))
    have hx := h x (by simp)
    rw [inL_cons, outL_cons, List.length_cons]
    by_cases h2 : x.In = 0
    · have h3 : ¬ x.Out = 0 := fun e => ok_put hx ((u8_zero _).2 h2) (by rw [h2, e])
      rw [if_pos h2, if_neg h3, List.length_cons]; omega
    · rw [if_neg h2, List.length_cons]
      split
      · omega
      · rw [List.length_cons]; omega
theorem isCd_forms {l : List DLink} (h : isCd l = true) : isFm ⟨(inL l).toArray⟩ = true ∧ isFm ⟨(outL l).toArray⟩ = true := by
  unfold isCd at h
  rw [Bool.and_eq_true, Bool.and_eq_true, Bool.and_eq_true] at h
  exact h.2.2
theorem isCd_of {l : List DLink} (h : ∀ x ∈ l, okL x = true) (hi : isFm ⟨(inL l).toArray⟩ = true) (ho : isFm ⟨(outL l).toArray⟩ = true) : isCd l = true := by
  have h1 := len_sides h
  have h2 : (inL l).length ≤ 8 := isFm_size hi
  have h3 : (outL l).length ≤ 8 := isFm_size ho
  unfold isCd
  rw [List.all_eq_true.2 h, hi, ho, show decide ((l.length : Int) ≤ 16) = true by simp; omega]
  rfl
theorem comp_valid {a b : List DLink} (ha : isCd a = true) (hb : isCd b = true) (h : outL a = inL b) : isCd (compL a b) = true := by
  have hs := comp_sides _ a b rfl h
  refine isCd_of (comp_ok _ a b rfl h (fun x hx => isCd_ok ha hx) (fun x hx => isCd_ok hb hx)) ?_ ?_
  · rw [hs.1]; exact (isCd_forms ha).1
  · rw [hs.2]; exact (isCd_forms hb).2
/-- Whether two candidates can be composed; what they come to. -/
def compB (a b : List DLink) : Bool := isCd a && isCd b && decide (outL a = inL b)
def compC (a b : List DLink) : List DLink := if compB a b then compL a b else []
theorem compC_len (a b : List DLink) : (compC a b).length ≤ 16 := by
  unfold compC
  split
  · rename_i h
    unfold compB at h
    rw [Bool.and_eq_true, Bool.and_eq_true] at h
    exact isCd_len (comp_valid h.1.1 h.1.2 (by simpa using h.2))
  · simp
end Go.Proofs.YtcgmlhlnkbjfnaaDoor

/- SwapVoice of both: what it answers. -/
namespace Go.Proofs.YtcgmlhlnkbjfnaaDoor
set_option maxRecDepth 100000
open Go.RowKit

theorem implSwap_any (x : Int) (w : World) :
    Calls Tryd.prog 64 #[.int .u8 x] w fun e w' => e = .returned (.tuple #[.int .u8 (swapV x), .bool (isObs x)]) ∧ w = w' := by
  go_enter Tryd.func64, Tryd.ntmps64
  go_wp2
  all_goals
    go_ret2
    refine ⟨?_, rfl⟩
    unfold swapV isObs
    simp_all
theorem specSwap_any (x : Int) (w : World) :
    Calls Tryd.prog 32 #[.int .u8 x] w fun e w' => e = .returned (.tuple #[.int .u8 (swapV x), .bool (isObs x)]) ∧ w = w' := by
  go_enter Tryd.func32, Tryd.ntmps32
  go_wp2
  all_goals
    go_ret2
    refine ⟨?_, rfl⟩
    unfold swapV isObs
    simp_all
end Go.Proofs.YtcgmlhlnkbjfnaaDoor

/- The model's IsForm: what it answers. -/
namespace Go.Proofs.YtcgmlhlnkbjfnaaDoor
set_option maxRecDepth 100000
open Go.RowKit M

theorem specFm_any (s : ByteArray) (w : World) (hs : s.size ≤ maxLen) :
    Calls Tryd.prog 34 #[.string s] w fun e w' => e = .returned (.bool (isFm s)) ∧ w = w' := by
  have HM := Lib.hid hs
  clear hs
  go_enter Tryd.func34, Tryd.ntmps34
  go_wp2_with fail
  refine (specL2_any _ _ HM.out).mono ?_
  rintro e w2 ⟨rfl, rfl⟩
  go_wp2
  all_goals
    go_ret
    exact ⟨ret_bool (by unfold isFm; simp_all), rfl⟩
end Go.Proofs.YtcgmlhlnkbjfnaaDoor

/- Appending one byte to a row of bytes that the call made: a law for the walk. -/
namespace Go.Proofs.YtcgmlhlnkbjfnaaDoor
set_option maxRecDepth 100000
open Go.RowKit M
theorem cellsB_append (a b : List UInt8) : cellsB (a ++ b) = cellsB a ++ cellsB b := by simp [cellsB]
theorem cellsB_one (x : Int) (h0 : 0 ≤ x) (h1 : x < 256) : cellsB [byt x] = [.int .u8 x] := by simp [cellsB, byt_toNat x h0 h1]
theorem wpList_append_byte {ops : Array Oper} {rest : List Oper} {o : Oper} {a : Act} {Q : Exit → Act → World → Prop} (w : World) (hgd : o.guard = none) (s x : Operand)
    (ho : o.op = .call { callee := .builtin .append, args := #[s, x], argTypes := #[73, 73] })
    (base : Nat) (v : Value) (n : Nat) (l : List UInt8) (hs : a.eval s = v) (hown : w.ownsRow base 5 1 v n (cellsB l)) (b : Int) (hb0 : 0 ≤ b) (hb1 : b < 256)
    (hx : a.eval x = .slice (some ⟨w.heap.size, 0, none⟩) 1 1) (hn : n ≤ 70368744177664) (hbase : base ≤ w.heap.size)
    (h : ∀ v' w', w'.ownsRow base 5 1 v' (n + 1) (cellsB (l ++ [byt b])) → Below base w w' → wpList Tryd.prog ops Q rest (a.put o.dst v') w') :
    wpList Tryd.prog ops Q (o :: rest) a (w.alloc (.cells #[.int .u8 b] 5)) := by
  obtain ⟨i0, hi, hz0, hz1, hz2⟩ := info_parts Tryd.info5
  refine wpList_append_own (w.alloc (.cells #[.int .u8 b] 5)) hgd s x 73 ho base 5 i0 (.int .u8 0) 1 1 Tryd.underlying73 hi hz0 hz1 hz2 rfl (by decide) v n (cellsB l) hs (hown.alloc _) ⟨w.heap.size, 0, none⟩ 1 1 [.int .u8 b] hx rfl (cell_one_new _ _ _)
    (fun u hu => by simp at hu; subst hu; rfl) (by unfold maxLen; omega) (by omega) (by simp; omega) ?_
  intro v' w' h1 h2 _
  refine h v' w' (by rw [cellsB_append, cellsB_one b hb0 hb1]; exact h1) ?_
  exact ((Below.refl base w).alloc hbase _).grown h2 (by simp; omega) (fun q hq => (hown.lt q hq).1)
theorem cell_two_new (w : World) (x y : Value) (t : TypeId) : ∀ j u, [x, y][j]? = some u → (w.alloc (.cells #[x, y] t)).cell? ((⟨w.heap.size, 0, none⟩ : Addr).add j) = some u := by
  intro j u hj
  have hp : (⟨w.heap.size, 0, none⟩ : Addr).add j = ⟨w.heap.size, j, none⟩ := by unfold Addr.add; split <;> simp_all
  rw [hp, World.cell?_alloc_mark]
  simpa using hj
theorem wpList_append_two {ops : Array Oper} {rest : List Oper} {o : Oper} {a : Act} {Q : Exit → Act → World → Prop} (w : World) (hgd : o.guard = none) (s x : Operand)
    (ho : o.op = .call { callee := .builtin .append, args := #[s, x], argTypes := #[73, 73] })
    (base : Nat) (v : Value) (n : Nat) (l : List UInt8) (hs : a.eval s = v) (hown : w.ownsRow base 5 1 v n (cellsB l)) (b c : Int) (hb0 : 0 ≤ b) (hb1 : b < 256) (hc0 : 0 ≤ c) (hc1 : c < 256)
    (hx : a.eval x = .slice (some ⟨w.heap.size, 0, none⟩) 2 2) (hn : n ≤ 70368744177664) (hbase : base ≤ w.heap.size)
    (h : ∀ v' w', w'.ownsRow base 5 1 v' (n + 2) (cellsB (l ++ [byt b, byt c])) → Below base w w' → wpList Tryd.prog ops Q rest (a.put o.dst v') w') :
    wpList Tryd.prog ops Q (o :: rest) a (w.alloc (.cells #[.int .u8 b, .int .u8 c] 5)) := by
  obtain ⟨i0, hi, hz0, hz1, hz2⟩ := info_parts Tryd.info5
  refine wpList_append_own (w.alloc (.cells #[.int .u8 b, .int .u8 c] 5)) hgd s x 73 ho base 5 i0 (.int .u8 0) 1 1 Tryd.underlying73 hi hz0 hz1 hz2 rfl (by decide) v n (cellsB l) hs (hown.alloc _) ⟨w.heap.size, 0, none⟩ 2 2 [.int .u8 b, .int .u8 c] hx rfl (cell_two_new _ _ _ _)
    (fun u hu => by simp at hu; rcases hu with rfl | rfl <;> rfl) (by unfold maxLen; omega) (by omega) (by simp; omega) ?_
  intro v' w' h1 h2 _
  refine h v' w' (by rw [cellsB_append, show cellsB [byt b, byt c] = [.int .u8 b, .int .u8 c] by simp [cellsB, byt_toNat b hb0 hb1, byt_toNat c hc0 hc1]]; exact h1) ?_
  exact ((Below.refl base w).alloc hbase _).grown h2 (by simp; omega) (fun q hq => (hown.lt q hq).1)
/-- The same as one step of a region that draws its order. -/
theorem step_append_two {ops : Array Oper} {o : Oper} {a : Act} {K : Act → World → Prop} {Q : Exit → Act → World → Prop} {E : Prop} (w : World) (hgd : o.guard = none) (s x : Operand)
    (ho : o.op = .call { callee := .builtin .append, args := #[s, x], argTypes := #[73, 73] })
    (base : Nat) (v : Value) (n : Nat) (l : List UInt8) (hs : a.eval s = v) (hown : w.ownsRow base 5 1 v n (cellsB l)) (b c : Int) (hb0 : 0 ≤ b) (hb1 : b < 256) (hc0 : 0 ≤ c) (hc1 : c < 256)
    (hx : a.eval x = .slice (some ⟨w.heap.size, 0, none⟩) 2 2) (hn : n ≤ 70368744177664) (hbase : base ≤ w.heap.size)
    (h : ∀ v' w', w'.ownsRow base 5 1 v' (n + 2) (cellsB (l ++ [byt b, byt c])) → Below base w w' → K (a.put o.dst v') w') :
    if Region.wanted o (yielded ops a.tmps) = true then Oper.wp Tryd.prog o a (w.alloc (.cells #[.int .u8 b, .int .u8 c] 5)) K Q else E := by
  have hw : Region.wanted o (yielded ops a.tmps) = true := by simp [Region.wanted, hgd]
  rw [if_pos hw]
  obtain ⟨i0, hi, hz0, hz1, hz2⟩ := info_parts Tryd.info5
  refine wp_append_own (w.alloc (.cells #[.int .u8 b, .int .u8 c] 5)) s x 73 ho base 5 i0 (.int .u8 0) 1 1 Tryd.underlying73 hi hz0 hz1 hz2 rfl (by decide) v n (cellsB l) hs (hown.alloc _) ⟨w.heap.size, 0, none⟩ 2 2 [.int .u8 b, .int .u8 c] hx rfl (cell_two_new _ _ _ _)
    (fun u hu => by simp at hu; rcases hu with rfl | rfl <;> rfl) (by unfold maxLen; omega) (by omega) (by simp; omega) ?_
  intro v' w' h1 h2 _
  refine h v' w' (by rw [cellsB_append, show cellsB [byt b, byt c] = [.int .u8 b, .int .u8 c] by simp [cellsB, byt_toNat b hb0 hb1, byt_toNat c hc0 hc1]]; exact h1) ?_
  exact ((Below.refl base w).alloc hbase _).grown h2 (by simp; omega) (fun q hq => (hown.lt q hq).1)
theorem below_of_drew {B : Nat} {w w' : World} (h : Below B w.drew w') : Below B w w' := ⟨h.os, h.tape, h.output, h.size, h.block⟩
/-- The same behind a draw. -/
theorem step_append_two_drew {ops : Array Oper} {o : Oper} {a : Act} {K : Act → World → Prop} {Q : Exit → Act → World → Prop} {E : Prop} (w : World) (hgd : o.guard = none) (s x : Operand)
    (ho : o.op = .call { callee := .builtin .append, args := #[s, x], argTypes := #[73, 73] })
    (base : Nat) (v : Value) (n : Nat) (l : List UInt8) (hown : w.ownsRow base 5 1 v n (cellsB l)) (b c : Int) (hb : 0 ≤ b ∧ b < 256) (hc : 0 ≤ c ∧ c < 256) (hn : n ≤ 70368744177664) (hbase : base ≤ w.heap.size)
    (hs : a.eval s = v) (hx : a.eval x = .slice (some ⟨w.heap.size, 0, none⟩) 2 2)
    (h : ∀ v' w', w'.ownsRow base 5 1 v' (n + 2) (cellsB (l ++ [byt b, byt c])) → Below base w w' → K (a.put o.dst v') w') :
    if Region.wanted o (yielded ops a.tmps) = true then Oper.wp Tryd.prog o a ((w.alloc (.cells #[.int .u8 b, .int .u8 c] 5)).drew) K Q else E :=
  step_append_two w.drew hgd s x ho base v n l hs hown.drew b c hb.1 hb.2 hc.1 hc.2 hx hn hbase fun v' w' h1 h2 => h v' w' h1 (below_of_drew h2)
/-- 'wpList_append_byte', and a text's iterator stands as it stood. -/
theorem wpList_append_byte_it {ops : Array Oper} {rest : List Oper} {o : Oper} {a : Act} {Q : Exit → Act → World → Prop} (w : World) (hgd : o.guard = none) (s x : Operand)
    (ho : o.op = .call { callee := .builtin .append, args := #[s, x], argTypes := #[73, 73] })
    (base : Nat) (v : Value) (n : Nat) (l : List UInt8) (hs : a.eval s = v) (hown : w.ownsRow base 5 1 v n (cellsB l)) (b : Int) (hb0 : 0 ≤ b) (hb1 : b < 256)
    (hx : a.eval x = .slice (some ⟨w.heap.size, 0, none⟩) 1 1) (hn : n ≤ 70368744177664) (hbase : base ≤ w.heap.size)
    (it : Nat) (txt : ByteArray) (pos : Nat) (hit : w.heap[it]? = some (.stringIter txt pos))
    (h : ∀ v' w', w'.ownsRow base 5 1 v' (n + 1) (cellsB (l ++ [byt b])) → Below base w w' → w'.heap[it]? = some (.stringIter txt pos) → wpList Tryd.prog ops Q rest (a.put o.dst v') w') :
    wpList Tryd.prog ops Q (o :: rest) a (w.alloc (.cells #[.int .u8 b] 5)) := by
  obtain ⟨i0, hi, hz0, hz1, hz2⟩ := info_parts Tryd.info5
  refine wpList_append_own (w.alloc (.cells #[.int .u8 b] 5)) hgd s x 73 ho base 5 i0 (.int .u8 0) 1 1 Tryd.underlying73 hi hz0 hz1 hz2 rfl (by decide) v n (cellsB l) hs (hown.alloc _) ⟨w.heap.size, 0, none⟩ 1 1 [.int .u8 b] hx rfl (cell_one_new _ _ _)
    (fun u hu => by simp at hu; subst hu; rfl) (by unfold maxLen; omega) (by omega) (by simp; omega) ?_
  intro v' w' h1 h2 _
  have hlt : it < w.heap.size := lt_of_block hit
  have hne : some it ≠ v.ownBlock := by
    rcases hown.2 with ⟨rfl, _⟩ | ⟨g, cap, cur, rfl, _, hg, _⟩
    · simp [Value.ownBlock]
    · intro e
      have : it = g := by simpa [Value.ownBlock] using e
      subst this
      rw [hit] at hg
      cases hg
  refine h v' w' (by rw [cellsB_append, cellsB_one b hb0 hb1]; exact h1) ?_ ?_
  · exact ((Below.refl base w).alloc hbase _).grown h2 (by simp; omega) (fun q hq => (hown.lt q hq).1)
  · rw [h2.block it (by simp; omega) hne, Below.heap_alloc _ _ _ hlt, hit]
/-- 'wpList_append_byte', and every block that is no row of bytes stands as it stood. -/
theorem wpList_append_byte_k {ops : Array Oper} {rest : List Oper} {o : Oper} {a : Act} {Q : Exit → Act → World → Prop} (w : World) (hgd : o.guard = none) (s x : Operand)
    (ho : o.op = .call { callee := .builtin .append, args := #[s, x], argTypes := #[73, 73] })
    (base : Nat) (v : Value) (n : Nat) (l : List UInt8) (hs : a.eval s = v) (hown : w.ownsRow base 5 1 v n (cellsB l)) (b : Int) (hb0 : 0 ≤ b) (hb1 : b < 256)
    (hx : a.eval x = .slice (some ⟨w.heap.size, 0, none⟩) 1 1) (hn : n ≤ 70368744177664) (hbase : base ≤ w.heap.size)
    (h : ∀ v' w', w'.ownsRow base 5 1 v' (n + 1) (cellsB (l ++ [byt b])) → Below base w w' → (∀ (k : Nat) (o : Obj), w.heap[k]? = some o → (∀ c fz, o ≠ .cells c 5 fz) → w'.heap[k]? = some o) → wpList Tryd.prog ops Q rest (a.put o.dst v') w') :
    wpList Tryd.prog ops Q (o :: rest) a (w.alloc (.cells #[.int .u8 b] 5)) := by
  obtain ⟨i0, hi, hz0, hz1, hz2⟩ := info_parts Tryd.info5
  refine wpList_append_own (w.alloc (.cells #[.int .u8 b] 5)) hgd s x 73 ho base 5 i0 (.int .u8 0) 1 1 Tryd.underlying73 hi hz0 hz1 hz2 rfl (by decide) v n (cellsB l) hs (hown.alloc _) ⟨w.heap.size, 0, none⟩ 1 1 [.int .u8 b] hx rfl (cell_one_new _ _ _)
    (fun u hu => by simp at hu; subst hu; rfl) (by unfold maxLen; omega) (by omega) (by simp; omega) ?_
  intro v' w' h1 h2 _
  refine h v' w' (by rw [cellsB_append, cellsB_one b hb0 hb1]; exact h1) ?_ ?_
  · exact ((Below.refl base w).alloc hbase _).grown h2 (by simp; omega) (fun q hq => (hown.lt q hq).1)
  · intro k ob hk hob
    have hlt : k < w.heap.size := lt_of_block hk
    have hne : some k ≠ v.ownBlock := by
      rcases hown.2 with ⟨rfl, _⟩ | ⟨g, cap, cur, rfl, _, hg, _⟩
      · simp [Value.ownBlock]
      · intro e
        have : k = g := by simpa [Value.ownBlock] using e
        subst this
        rw [hk] at hg
        exact hob _ _ (Option.some.inj hg)
    rw [h2.block k (by simp; omega) hne, Below.heap_alloc _ _ _ hlt, hk]
end Go.Proofs.YtcgmlhlnkbjfnaaDoor

/- The model's l6In, l6Out: what they answer. -/
namespace Go.Proofs.YtcgmlhlnkbjfnaaDoor
set_option maxRecDepth 100000
open Go.RowKit M
set_option linter.unusedVariables false
set_option linter.unusedSimpArgs false

theorem own_empty5 (w : World) (o : Obj) : ((w.alloc o).alloc (.cells #[] 5)).ownsRow (w.heap.size + 1) 5 1 (.slice (some ⟨w.heap.size + 1, 0, none⟩) 0 0) 0 (cellsB []) :=
  ⟨rfl, Or.inr ⟨w.heap.size + 1, 0, #[], rfl, Nat.le_refl _, box2 _ _ _, Nat.le_refl _, by unfold maxLen; omega, rfl, rfl⟩⟩
set_option maxHeartbeats 4000000 in
theorem specIn_cd (x : DCandidate) (v : Value) (F : Addr → Prop) (w : World) (hl : x.Links.length ≤ 1048576) (hv : RowRd rLink false w v x.Links F) :
    Calls Tryd.prog 35 #[.agg #[v]] w fun e w' => e = .returned (.string ⟨(inL x.Links).toArray⟩) ∧ Below w.heap.size w w' := by
  obtain ⟨A, cap, rfl⟩ := hv.form
  have HV := Lib.hid hv
  clear hv
  have HX : Hid (∀ k, k < x.Links.length → ∃ y, x.Links[k]? = some y) := fun k hk => ⟨_, List.getElem?_eq_getElem hk⟩
  go_enter Tryd.func35, Tryd.ntmps35
  go_wp2
  go_loopw [3, 4] (fun u i wr => ∃ (k : Nat), k ≤ x.Links.length ∧ i = .int .i64 k ∧ wr.ownsRow (w.heap.size + 1) 5 1 u (inL (x.Links.take k)).length (cellsB (inL (x.Links.take k))) ∧ Below w.heap.size w wr ∧ Hid (w.heap.size + 1 ≤ wr.heap.size) ∧ InC wr w.heap.size #[.slice A x.Links.length cap] 33) (fun _ i _ => x.Links.length - (intOf i).toNat)
  case atStart => exact ⟨0, by omega, rfl, own_empty5 _ _, ((Below.refl _ _).alloc (Nat.le_refl _) _).alloc (by simp) _, by unfold Hid; simp, box1 _ _ _⟩
  case round =>
    obtain ⟨k, hk, rfl, ho, hbe, hs1, hi1⟩ := hrel
    have b1 := hi1.cell 0 rfl
    have HBE := Lib.hid hbe
    have HI1 := Lib.hid hi1
    clear hbe hi1
    by_cases hkl : k < x.Links.length
    · obtain ⟨y, hy⟩ := HX.out k hkl
      obtain ⟨g, off, xs, Fk, rfl, _, hra, _, hca⟩ := (HV.out.kept HBE.out).get hy
      obtain rfl := rLink_rd hra
      rw [rLink_size] at hca
      have c0 := hca 0 _ rfl
      have c1 := hca 1 _ rfl
      simp only [Nat.add_zero] at c0
      have HIY := Lib.hid (fun h => inL_yes hy h)
      have HIN := Lib.hid (fun h => inL_no hy h)
      have hli := inL_len x.Links k
      clear hca hra hy
      have ha := u8_in y.In
      generalize inL (x.Links.take k) = I0 at *
      generalize (y.In.toNat : Int) = a at *
      generalize (y.Out.toNat : Int) = b at *
      have HAB := Lib.hid ha
      have HO := Lib.hid ho
      have HLE : Hid (I0.length ≤ 70368744177664) := by unfold Hid; omega
      clear ha hli ho
      by_cases ha0 : a = 0
      · have HI := Lib.hid (HIN.out ha0)
        subst ha0
        go_wp2
        go_roundw
        case rel => exact ⟨k + 1, by omega, by go_num, by rw [HI.out]; exact HO.out, HBE.out, hs1, HI1.out⟩
        case measure => simp [intOf]; omega
      · have HI := Lib.hid (HIY.out ha0)
        go_wp2_with (at_builtin; refine wpList_append_byte_k _ rfl (.tmp 20) (.tmp 27) rfl (w.heap.size + 1) _ _ _ rfl HO.out a HAB.out.1 HAB.out.2 rfl HLE.out hs1.out ?_; intro v' w1 h1 hb1 hk1; have HO2 := Lib.hid h1; have HB1 := Lib.hid hb1; have HI2 : Hid (InC w1 w.heap.size #[.slice (some ⟨g, off, none⟩) x.Links.length cap] 33) := hk1 _ _ HI1.out (by intro c fz e; cases e); clear h1 hb1 hk1)
        go_roundw
        case rel => exact ⟨k + 1, by omega, by go_num, by rw [HI.out, List.length_append]; exact HO2.out, HBE.out.trans (HB1.out.mono (Nat.le_succ _)), Nat.le_trans hs1.out HB1.out.size, HI2.out⟩
        case measure => simp [intOf]; omega
    · obtain rfl : k = x.Links.length := by omega
      rw [List.take_length] at ho
      have hcv := conv_own ho
      clear ho
      go_wp2
      go_ret
      exact ⟨rfl, HBE.out⟩
set_option maxHeartbeats 4000000 in
theorem specOut_cd (x : DCandidate) (v : Value) (F : Addr → Prop) (w : World) (hl : x.Links.length ≤ 1048576) (hv : RowRd rLink false w v x.Links F) :
    Calls Tryd.prog 36 #[.agg #[v]] w fun e w' => e = .returned (.string ⟨(outL x.Links).toArray⟩) ∧ Below w.heap.size w w' := by
  obtain ⟨A, cap, rfl⟩ := hv.form
  have HV := Lib.hid hv
  clear hv
  have HX : Hid (∀ k, k < x.Links.length → ∃ y, x.Links[k]? = some y) := fun k hk => ⟨_, List.getElem?_eq_getElem hk⟩
  go_enter Tryd.func36, Tryd.ntmps36
  go_wp2
  go_loopw [3, 4] (fun u i wr => ∃ (k : Nat), k ≤ x.Links.length ∧ i = .int .i64 k ∧ wr.ownsRow (w.heap.size + 1) 5 1 u (outL (x.Links.take k)).length (cellsB (outL (x.Links.take k))) ∧ Below w.heap.size w wr ∧ Hid (w.heap.size + 1 ≤ wr.heap.size) ∧ InC wr w.heap.size #[.slice A x.Links.length cap] 33) (fun _ i _ => x.Links.length - (intOf i).toNat)
  case atStart => exact ⟨0, by omega, rfl, own_empty5 _ _, ((Below.refl _ _).alloc (Nat.le_refl _) _).alloc (by simp) _, by unfold Hid; simp, box1 _ _ _⟩
  case round =>
    obtain ⟨k, hk, rfl, ho, hbe, hs1, hi1⟩ := hrel
    have b1 := hi1.cell 0 rfl
    have HBE := Lib.hid hbe
    have HI1 := Lib.hid hi1
    clear hbe hi1
    by_cases hkl : k < x.Links.length
    · obtain ⟨y, hy⟩ := HX.out k hkl
      obtain ⟨g, off, xs, Fk, rfl, _, hra, _, hca⟩ := (HV.out.kept HBE.out).get hy
      obtain rfl := rLink_rd hra
      rw [rLink_size] at hca
      have c0 := hca 0 _ rfl
      have c1 := hca 1 _ rfl
      simp only [Nat.add_zero] at c0
      have HIY := Lib.hid (fun h => outL_yes hy h)
      have HIN := Lib.hid (fun h => outL_no hy h)
      have hli := outL_len x.Links k
      clear hca hra hy
      have ha := u8_in y.Out
      generalize outL (x.Links.take k) = I0 at *
      generalize (y.In.toNat : Int) = b at *
      generalize (y.Out.toNat : Int) = a at *
      have HAB := Lib.hid ha
      have HO := Lib.hid ho
      have HLE : Hid (I0.length ≤ 70368744177664) := by unfold Hid; omega
      clear ha hli ho
      by_cases ha0 : a = 0
      · have HI := Lib.hid (HIN.out ha0)
        subst ha0
        go_wp2
        go_roundw
        case rel => exact ⟨k + 1, by omega, by go_num, by rw [HI.out]; exact HO.out, HBE.out, hs1, HI1.out⟩
        case measure => simp [intOf]; omega
      · have HI := Lib.hid (HIY.out ha0)
        go_wp2_with (at_builtin; refine wpList_append_byte_k _ rfl (.tmp 20) (.tmp 27) rfl (w.heap.size + 1) _ _ _ rfl HO.out a HAB.out.1 HAB.out.2 rfl HLE.out hs1.out ?_; intro v' w1 h1 hb1 hk1; have HO2 := Lib.hid h1; have HB1 := Lib.hid hb1; have HI2 : Hid (InC w1 w.heap.size #[.slice (some ⟨g, off, none⟩) x.Links.length cap] 33) := hk1 _ _ HI1.out (by intro c fz e; cases e); clear h1 hb1 hk1)
        go_roundw
        case rel => exact ⟨k + 1, by omega, by go_num, by rw [HI.out, List.length_append]; exact HO2.out, HBE.out.trans (HB1.out.mono (Nat.le_succ _)), Nat.le_trans hs1.out HB1.out.size, HI2.out⟩
        case measure => simp [intOf]; omega
    · obtain rfl : k = x.Links.length := by omega
      rw [List.take_length] at ho
      have hcv := conv_own ho
      clear ho
      go_wp2
      go_ret
      exact ⟨rfl, HBE.out⟩
end Go.Proofs.YtcgmlhlnkbjfnaaDoor

/- The model's IsCandidate, InputOf, OutputOf: what they answer. -/
namespace Go.Proofs.YtcgmlhlnkbjfnaaDoor
set_option maxRecDepth 100000
open Go.RowKit M
set_option linter.unusedVariables false
set_option linter.unusedSimpArgs false

set_option maxRecDepth 100000 in
set_option maxHeartbeats 8000000 in
theorem specIsCd_any (x : DCandidate) (v : Value) (F : Addr → Prop) (w : World) (hl : x.Links.length ≤ 1048576) (hv : RowRd rLink false w v x.Links F) :
    Calls Tryd.prog 19 #[.agg #[v]] w fun e w' => e = .returned (.bool (isCd x.Links)) ∧ Below w.heap.size w w' := by
  obtain ⟨A, cap, rfl⟩ := hv.form
  have HV := Lib.hid hv
  clear hv
  have HX : Hid (∀ k, k < x.Links.length → ∃ y, x.Links[k]? = some y) := fun k hk => ⟨_, List.getElem?_eq_getElem hk⟩
  have HNOT : Hid (∀ k (y : DLink), x.Links[k]? = some y → okI (y.In.toNat : Int) (y.Out.toNat : Int) = false → isCd x.Links = false) := fun k y h1 h2 => isCd_not h1 h2
  go_enter Tryd.func19, Tryd.ntmps19
  go_wp2
  go_loopw [3] (fun i wr => ∃ (k : Nat), k ≤ x.Links.length ∧ i = .int .i64 k ∧ Hid (∀ j (y : DLink), x.Links[j]? = some y → j < k → okI (y.In.toNat : Int) (y.Out.toNat : Int) = true) ∧ Below w.heap.size w wr ∧ InC wr w.heap.size #[.slice A x.Links.length cap] 33) (fun i _ => x.Links.length - (intOf i).toNat)
  case atStart => exact ⟨0, by omega, rfl, fun j y _ h => by omega, (Below.refl _ _).alloc (Nat.le_refl _) _, heap_alloc_new _ _⟩
  case round =>
    obtain ⟨k, hk, rfl, hall, hbe, hi1⟩ := hrel
    have b1 := hi1.cell 0 rfl
    have HBE := Lib.hid hbe
    have HI1 := Lib.hid hi1
    clear hbe hi1
    by_cases hkl : k < x.Links.length
    · obtain ⟨y, hy⟩ := HX.out k hkl
      obtain ⟨g, off, xs, Fk, rfl, _, hra, _, hca⟩ := (HV.out.kept HBE.out).get hy
      obtain rfl := rLink_rd hra
      rw [rLink_size] at hca
      have c0 := hca 0 _ rfl
      have c1 := hca 1 _ rfl
      simp only [Nat.add_zero] at c0
      have HY := Lib.hid hy
      clear hca hra hy
      have HOK : Hid (okI (y.In.toNat : Int) (y.Out.toNat : Int) = true → ∀ j (z : DLink), x.Links[j]? = some z → j < k + 1 → okI (z.In.toNat : Int) (z.Out.toNat : Int) = true) := fun h j z hz hj => by
        by_cases hjk : j = k
        · subst hjk; rw [HY.out] at hz; cases hz; exact h
        · exact hall.out j z hz (by omega)
      have HNO := Lib.hid (HNOT.out k y HY.out)
      have ha := u8_in y.In
      have hb := u8_in y.Out
      generalize (y.In.toNat : Int) = a at *
      generalize (y.Out.toNat : Int) = b at *
      have HAB := Lib.hid (And.intro ha hb)
      have HM : Hid (okM a b = okI a b) := okM_eq a b
      have HB2 : Hid (Below w.heap.size w (wr.alloc (.cells #[.int .u8 a, .int .u8 b] 57))) := HBE.out.alloc HBE.out.size _
      have HI2 : Hid (InC (wr.alloc (.cells #[.int .u8 a, .int .u8 b] 57)) w.heap.size #[.slice (some ⟨g, off, none⟩) x.Links.length cap] 33) := HI1.out.kept ((Below.refl _ _).alloc (Nat.le_refl _) _)
      clear ha hb HY
      go_wp2_with fail
      refine (specSwap_any a _).mono ?_
      rintro e w2 ⟨rfl, rfl⟩
      have HSA : Hid (∀ W, Calls Tryd.prog 33 #[.int .u8 a] W fun e w' => e = .returned (.bool (isSnd a)) ∧ W = w') := fun W => specIsSound_any a W
      have HSB : Hid (∀ W, Calls Tryd.prog 33 #[.int .u8 b] W fun e w' => e = .returned (.bool (isSnd b)) ∧ W = w') := fun W => specIsSound_any b W
      have b2 := HI2.out.cell 0 rfl
      have HM2 : Hid (okI a b = (!((!decide (a = 0) && !isSnd a) || (!decide (b = 0) && !isSnd b) || (decide (a = 0) && decide (b = 0))) && !(!decide (a = 0) && !decide (b = 0) && !decide (a = b) && !(isObs a && decide (swapV a = b))))) := HM.out.symm
      generalize isSnd a = sa at *
      generalize isSnd b = sb at *
      generalize swapV a = s at *
      generalize isObs a = oa at *
      by_cases ha0 : a = 0
      · subst ha0
        by_cases hb0 : b = 0
        · subst hb0
          have HR := Lib.hid (HNO.out (by rw [HM2.out]; simp))
          go_wp2_with fail
          go_ret
          exact ⟨ret_bool HR.out.symm, HB2.out⟩
        · cases sb
          · have HR := Lib.hid (HNO.out (by rw [HM2.out]; simp [hb0]))
            go_wp2_with fail
            refine (HSB.out _).mono ?_
            rintro e w2 ⟨rfl, rfl⟩
            go_wp2_with fail
            go_ret
            exact ⟨ret_bool HR.out.symm, HB2.out⟩
          · have HALL := Lib.hid (HOK.out (by rw [HM2.out]; simp [hb0]))
            go_wp2_with fail
            refine (HSB.out _).mono ?_
            rintro e w2 ⟨rfl, rfl⟩
            go_wp2_with fail
            go_roundw
            case rel => exact ⟨k + 1, by omega, by go_num, HALL, HB2.out, HI2.out⟩
            case measure => simp [intOf]; omega
      · cases sa
        · have HR := Lib.hid (HNO.out (by rw [HM2.out]; simp [ha0]))
          go_wp2_with fail
          refine (HSA.out _).mono ?_
          rintro e w2 ⟨rfl, rfl⟩
          go_wp2_with fail
          go_ret
          exact ⟨ret_bool HR.out.symm, HB2.out⟩
        · by_cases hb0 : b = 0
          · subst hb0
            have HALL := Lib.hid (HOK.out (by rw [HM2.out]; simp [ha0]))
            go_wp2_with fail
            refine (HSA.out _).mono ?_
            rintro e w2 ⟨rfl, rfl⟩
            go_wp2_with fail
            go_roundw
            case rel => exact ⟨k + 1, by omega, by go_num, HALL, HB2.out, HI2.out⟩
            case measure => simp [intOf]; omega
          · cases sb
            · have HR := Lib.hid (HNO.out (by rw [HM2.out]; simp [ha0, hb0]))
              go_wp2_with fail
              refine (HSA.out _).mono ?_
              rintro e w2 ⟨rfl, rfl⟩
              go_wp2_with fail
              refine (HSB.out _).mono ?_
              rintro e w2 ⟨rfl, rfl⟩
              go_wp2_with fail
              go_ret
              exact ⟨ret_bool HR.out.symm, HB2.out⟩
            · go_wp2_with fail
              refine (HSA.out _).mono ?_
              rintro e w2 ⟨rfl, rfl⟩
              go_wp2_with fail
              refine (HSB.out _).mono ?_
              rintro e w2 ⟨rfl, rfl⟩
              by_cases hab : a = b
              · subst hab
                have HALL := Lib.hid (HOK.out (by rw [HM2.out]; simp [ha0]))
                go_wp2_with fail
                go_roundw
                case rel => exact ⟨k + 1, by omega, by go_num, HALL, HB2.out, HI2.out⟩
                case measure => simp [intOf]; omega
              · have q1 : (a != 0) = true := by simpa using ha0
                have q2 : (b != 0) = true := by simpa using hb0
                have q3 : (a != b) = true := by simpa using hab
                cases oa
                · have HR := Lib.hid (HNO.out (by rw [HM2.out]; simp [ha0, hb0, hab]))
                  go_wp2_with fail
                  go_ret
                  exact ⟨ret_bool HR.out.symm, HB2.out⟩
                · by_cases hsb : s = b
                  · subst hsb
                    have HALL := Lib.hid (HOK.out (by rw [HM2.out]; simp [ha0, hb0, hab]))
                    go_wp2_with fail
                    go_roundw
                    case rel => exact ⟨k + 1, by omega, by go_num, HALL, HB2.out, HI2.out⟩
                    case measure => simp [intOf]; omega
                  · have HR := Lib.hid (HNO.out (by rw [HM2.out]; simp [ha0, hb0, hab, hsb]))
                    have q4 : (s == b) = false := by simpa using hsb
                    go_wp2_with fail
                    go_ret
                    exact ⟨ret_bool HR.out.symm, HB2.out⟩
    · obtain rfl : k = x.Links.length := by omega
      have HI : Hid (isCd x.Links = (decide ((x.Links.length : Int) ≤ 16) && (isFm ⟨(inL x.Links).toArray⟩ && isFm ⟨(outL x.Links).toArray⟩))) := by
        unfold Hid isCd
        rw [all_ok (fun j y h1 h2 => hall.out j y h1 h2), Bool.true_and]
      by_cases h16 : (x.Links.length : Int) ≤ 16
      · have hli := inL_len_all x.Links
        have hlo := outL_len_all x.Links
        have HLI : Hid ((⟨(inL x.Links).toArray⟩ : ByteArray).size ≤ maxLen) := by unfold Hid maxLen; simp [ByteArray.size]; omega
        have HLO : Hid ((⟨(outL x.Links).toArray⟩ : ByteArray).size ≤ maxLen) := by unfold Hid maxLen; simp [ByteArray.size]; omega
        have HS1 : Hid (∀ W, Below w.heap.size w W → Calls Tryd.prog 35 #[.agg #[.slice A x.Links.length cap]] W fun e w' => e = .returned (.string ⟨(inL x.Links).toArray⟩) ∧ Below W.heap.size W w') := fun W hW => specIn_cd x _ F W hl (HV.out.kept hW)
        have HS2 : Hid (∀ W, Below w.heap.size w W → Calls Tryd.prog 36 #[.agg #[.slice A x.Links.length cap]] W fun e w' => e = .returned (.string ⟨(outL x.Links).toArray⟩) ∧ Below W.heap.size W w') := fun W hW => specOut_cd x _ F W hl (HV.out.kept hW)
        have HI' : Hid (isCd x.Links = (isFm ⟨(inL x.Links).toArray⟩ && isFm ⟨(outL x.Links).toArray⟩)) := by unfold Hid; rw [HI.out, decide_eq_true h16, Bool.true_and]
        go_wp2_with fail
        refine (HS1.out _ HBE.out).mono ?_
        rintro e w2 ⟨rfl, hb2⟩
        have b2 := (HI1.out.kept hb2).cell 0 rfl
        have HB2 : Hid (Below w.heap.size w w2) := below_step HBE.out hb2
        clear hb2
        go_wp2_with fail
        refine (specFm_any ⟨(inL x.Links).toArray⟩ _ HLI.out).mono ?_
        rintro e w3 ⟨rfl, rfl⟩
        generalize isFm ⟨(inL x.Links).toArray⟩ = fi at *
        cases fi
        · go_wp2_with fail
          go_ret
          exact ⟨ret_bool (by rw [HI'.out] <;> simp), HB2.out⟩
        · go_wp2_with fail
          refine (HS2.out _ HB2.out).mono ?_
          rintro e w3 ⟨rfl, hb3⟩
          have HB3 : Hid (Below w.heap.size w w3) := below_step HB2.out hb3
          clear hb3
          go_wp2_with fail
          refine (specFm_any ⟨(outL x.Links).toArray⟩ _ HLO.out).mono ?_
          rintro e w4 ⟨rfl, rfl⟩
          go_wp2_with fail
          go_ret
          exact ⟨ret_bool (by rw [HI'.out] <;> simp), HB3.out⟩
      · have HR : Hid (isCd x.Links = false) := by unfold Hid; rw [HI.out, decide_eq_false h16, Bool.false_and]
        go_wp2_with fail
        go_ret
        exact ⟨ret_bool (by rw [HR.out] <;> simp [h16]), HBE.out⟩
def inS (l : List DLink) : List UInt8 := if isCd l then inL l else []
def outS (l : List DLink) : List UInt8 := if isCd l then outL l else []
set_option maxHeartbeats 4000000 in
set_option maxHeartbeats 4000000 in
theorem specOutput_any (x : DCandidate) (v : Value) (F : Addr → Prop) (w : World) (hl : x.Links.length ≤ 1048576) (hv : RowRd rLink false w v x.Links F) :
    Calls Tryd.prog 37 #[.agg #[v]] w fun e w' => e = .returned (.string ⟨(outS x.Links).toArray⟩) ∧ Below w.heap.size w w' := by
  have HS0 : Hid (∀ W, Below w.heap.size w W → Calls Tryd.prog 19 #[.agg #[v]] W fun e w' => e = .returned (.bool (isCd x.Links)) ∧ Below W.heap.size W w') := fun W hW => specIsCd_any x _ F W hl (hv.kept hW)
  have HS1 : Hid (∀ W, Below w.heap.size w W → Calls Tryd.prog 36 #[.agg #[v]] W fun e w' => e = .returned (.string ⟨(outL x.Links).toArray⟩) ∧ Below W.heap.size W w') := fun W hW => specOut_cd x _ F W hl (hv.kept hW)
  obtain ⟨A, cap, rfl⟩ := hv.form
  clear hv
  have HE : Hid (outS x.Links = if isCd x.Links then outL x.Links else []) := rfl
  generalize isCd x.Links = c at *
  generalize outS x.Links = r at *
  have HA : Hid (∀ o, Below w.heap.size w (w.alloc o)) := fun o => (Below.refl _ _).alloc (Nat.le_refl _) _
  have HA1 : Hid (InC (w.alloc (.cells #[.slice A x.Links.length cap] 33)) w.heap.size #[.slice A x.Links.length cap] 33) := heap_alloc_new _ _
  go_enter Tryd.func37, Tryd.ntmps37
  go_wp2_with fail
  refine (HS0.out _ (HA.out _)).mono ?_
  rintro e w2 ⟨rfl, hb⟩
  have b1 := (HA1.out.kept hb).cell 0 rfl
  have HB : Hid (Below w.heap.size w w2) := below_step (HA.out _) hb
  clear hb
  cases c
  · go_wp2_with fail
    go_ret
    exact ⟨ret_str (by rw [HE.out] <;> rfl), HB.out⟩
  · go_wp2_with fail
    refine (HS1.out _ HB.out).mono ?_
    rintro e w3 ⟨rfl, hb⟩
    have HB3 : Hid (Below w.heap.size w w3) := below_step HB.out hb
    clear hb
    go_wp2_with fail
    go_ret
    exact ⟨ret_str (by rw [HE.out] <;> rfl), HB3.out⟩
end Go.Proofs.YtcgmlhlnkbjfnaaDoor

/- What a name of a constraint counts: plain mathematics. -/
namespace Go.Proofs.YtcgmlhlnkbjfnaaDoor
set_option maxRecDepth 100000
open Go.RowKit M
set_option linter.unusedVariables false
set_option linter.unusedSimpArgs false

/-- The place of a name among the ten; ten where it is none. -/
def nix (x : ByteArray) : Nat := namesB.findIdx fun y => decide (y = x)
theorem nix_le (x : ByteArray) : nix x ≤ 10 := List.findIdx_le_length
theorem nix_at {x : ByteArray} (h : nix x < 10) : namesB[nix x]? = some x := by
  have h1 : nix x < namesB.length := h
  have := List.findIdx_getElem (w := h1)
  rw [List.getElem?_eq_getElem h1]
  have h2 : namesB[List.findIdx (fun y => decide (y = x)) namesB] = x := by simpa using this
  exact congrArg some h2
theorem nix_self : ∀ i, i < 10 → nix (namesB.getD i ByteArray.empty) = i := by decide +kernel
theorem nix_of {x : ByteArray} {i : Nat} (h : namesB[i]? = some x) : nix x = i := by
  have hi : i < 10 := (List.getElem?_eq_some_iff.1 h).1
  have h2 := nix_self i hi
  rw [List.getD_eq_getElem?_getD, h] at h2
  exact h2
theorem hasB_nix (x : ByteArray) : hasB namesB x = decide (nix x < 10) := by
  cases hh : hasB namesB x with
  | true =>
    unfold hasB at hh
    rw [List.any_eq_true] at hh
    obtain ⟨y, hy, he⟩ := hh
    obtain rfl : y = x := by simpa using he
    obtain ⟨k, hk, rfl⟩ := List.getElem_of_mem hy
    rw [nix_of (List.getElem?_eq_getElem hk)]
    exact (decide_eq_true hk).symm
  | false =>
    rw [eq_comm, decide_eq_false_iff_not]
    intro h
    rw [hasB_yes (nix_at h)] at hh
    cases hh
/-- The test that a text is this name. -/
theorem nix_test (x y : ByteArray) (i : Nat) (h : namesB[i]? = some y) : (x.toList == y.toList) = decide (nix x = i) := by
  by_cases e : x = y
  · subst e
    rw [nix_of h]
    simp
  · have h1 : ¬ nix x = i := fun hn => by
      have hi : i < 10 := (List.getElem?_eq_some_iff.1 h).1
      have h2 := nix_at (x := x) (by omega)
      rw [hn, h] at h2
      exact e (Option.some.inj h2).symm
    have h2 : ¬ x.toList = y.toList := fun ht => e (by rw [Lib.toList_data, Lib.toList_data] at ht; exact ByteArray.ext (Array.toList_inj.1 ht))
    rw [decide_eq_false h1, beq_eq_false_iff_ne.2 h2]
def outT (l : List DLink) : ByteArray := ⟨(outS l).toArray⟩
theorem outT_size (l : List DLink) : (outT l).size ≤ l.length := by
  show (outS l).toArray.size ≤ _
  rw [List.size_toArray]
  unfold outS
  split
  · exact outL_len_all l
  · simp
/-- The j-th count. -/
def cntN (j : Nat) (l : List DLink) : Int := match j with
  | 0 => (mkC nconsB vowB (outT l) : Nat)
  | 1 => (mkC consB nvowB (outT l) : Nat)
  | 2 => (mkC consB consB (outT l) : Nat)
  | 3 => (mkC anyB vobB (outT l) : Nat)
  | 4 => (mkC vobB edgB (outT l) : Nat)
  | 5 => (mkC nasB vlsB (outT l) : Nat)
  | 6 => (cntC delK l : Nat)
  | 7 => (cntC insK l : Nat)
  | 8 => (cntC vchK l : Nat)
  | 9 => (brkC l : Nat)
  | _ => -1
theorem cntN_none (l : List DLink) {j : Nat} (h : 10 ≤ j) : cntN j l = -1 := by
  obtain ⟨k, rfl⟩ : ∃ k, j = k + 10 := ⟨j - 10, by omega⟩
  rfl
/-- How often a candidate violates a constraint; -1 if there is none of this name or the candidate is not valid. -/
def vioN (x : ByteArray) (l : List DLink) : Int := if isCd l then cntN (nix x) l else -1
theorem vioN_no {x : ByteArray} {l : List DLink} (h : isCd l = false) : vioN x l = -1 := by unfold vioN; rw [h]; rfl
theorem vioN_yes {x : ByteArray} {l : List DLink} (h : isCd l = true) : vioN x l = cntN (nix x) l := by unfold vioN; rw [if_pos h]
theorem vioN_at {x : ByteArray} {l : List DLink} {j : Nat} (h : isCd l = true) (hj : nix x = j) : vioN x l = cntN j l := by rw [vioN_yes h, hj]
/-- The first k of the counts of these names. -/
def profTo (ns : List ByteArray) (l : List DLink) (k : Nat) : List Int := (ns.take k).map fun x => vioN x l
def profN (ns : List ByteArray) (l : List DLink) : List Int := if areC ns && isCd l then profTo ns l ns.length else []
theorem profTo_len {ns : List ByteArray} {l : List DLink} {k : Nat} (h : k ≤ ns.length) : (profTo ns l k).length = k := by unfold profTo; rw [List.length_map, List.length_take]; omega
theorem profTo_step {ns : List ByteArray} {l : List DLink} {k : Nat} {x : ByteArray} (h : ns[k]? = some x) : profTo ns l (k + 1) = profTo ns l k ++ [vioN x l] := by
  unfold profTo
  rw [List.take_add_one, h, List.map_append]; rfl
theorem profN_no {ns : List ByteArray} {l : List DLink} (h : areC ns = false ∨ isCd l = false) : profN ns l = [] := by
  unfold profN
  rcases h with h | h <;> rw [h] <;> simp
theorem profN_yes {ns : List ByteArray} {l : List DLink} (h : areC ns = true) (h2 : isCd l = true) : profN ns l = profTo ns l ns.length := by unfold profN; rw [h, h2]; rfl
theorem profN_len (ns : List ByteArray) (l : List DLink) : (profN ns l).length ≤ 5 := by
  unfold profN
  split
  · rename_i h
    rw [Bool.and_eq_true] at h
    have := (areC_len h.1).2
    rw [profTo_len (Nat.le_refl _)]
    omega
  · simp
end Go.Proofs.YtcgmlhlnkbjfnaaDoor
