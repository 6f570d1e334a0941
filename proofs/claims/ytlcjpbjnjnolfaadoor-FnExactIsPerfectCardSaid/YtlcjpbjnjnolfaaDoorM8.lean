/- Marks of forms: plain mathematics: neighbours in a form with its edges, counted. -/
import Derived.Test.YtlcjpbjnjnolfaaDoorFm
namespace Go.Proofs.YtlcjpbjnjnolfaaDoor
set_option maxRecDepth 100000
open Go.RowKit M

/-- How many below j meet p. -/
def cntP (p : Nat → Bool) (j : Nat) : Nat := ((List.range j).filter p).length
theorem cntP_le (p : Nat → Bool) (j : Nat) : cntP p j ≤ j := Nat.le_trans (List.length_filter_le _ _) (by simp)
theorem cntP_zero (p : Nat → Bool) : cntP p 0 = 0 := rfl
theorem cntP_yes (p : Nat → Bool) (j : Nat) (h : p j = true) : cntP p (j + 1) = cntP p j + 1 := by
  unfold cntP; rw [List.range_succ, List.filter_append]; simp [h]
theorem cntP_no (p : Nat → Bool) (j : Nat) (h : p j = false) : cntP p (j + 1) = cntP p j := by
  unfold cntP; rw [List.range_succ, List.filter_append]; simp [h]
theorem cntP_succ (p : Nat → Bool) (j : Nat) : cntP p (j + 1) = cntP p j + (if p j = true then 1 else 0) := by
  cases h : p j with
  | true => rw [cntP_yes p j h]; simp
  | false => rw [cntP_no p j h]; simp
theorem cntP_congr {p q : Nat → Bool} : ∀ {j : Nat}, (∀ k, k < j → p k = q k) → cntP p j = cntP q j
  | 0, _ => rfl
  | j + 1, h => by
    rw [cntP_succ, cntP_succ, cntP_congr fun k hk => h k (by omega), h j (by omega)]
theorem cntP_shift (p : Nat → Bool) : ∀ n, cntP p (n + 1) = (if p 0 = true then 1 else 0) + cntP (fun k => p (k + 1)) n
  | 0 => by rw [cntP_succ, cntP_zero, cntP_zero]; omega
  | n + 1 => by rw [cntP_succ, cntP_shift p n, cntP_succ (fun k => p (k + 1)) n]; omega
theorem cntP_none {p : Nat → Bool} {j : Nat} (h : ∀ k, k < j → p k = false) : cntP p j = 0 := by
  induction j with
  | zero => rfl
  | succ j ih => rw [cntP_no p j (h j (by omega)), ih fun k hk => h k (by omega)]
/-- The k-th byte with the edges of the form among them. -/
def eB (s : ByteArray) : Nat → Int
  | 0 => 0
  | k + 1 => bAt s k
theorem eB_zero (s : ByteArray) : eB s 0 = 0 := rfl
theorem eB_succ (s : ByteArray) (k : Nat) : eB s (k + 1) = bAt s k := rfl
theorem bAt_out (s : ByteArray) (k : Nat) (h : s.size ≤ k) : bAt s k = 0 := by
  unfold bAt
  rw [List.getD_eq_getElem?_getD, List.getElem?_eq_none (by simpa using h)]
  rfl
theorem bAt_range (s : ByteArray) (k : Nat) : 0 ≤ bAt s k ∧ bAt s k < 256 := by
  unfold bAt
  generalize s.data.toList.getD k 0 = b
  exact ⟨by omega, by have := b.toNat_lt; omega⟩
theorem eB_range (s : ByteArray) (k : Nat) : 0 ≤ eB s k ∧ eB s k < 256 := by
  cases k with
  | zero => rw [eB_zero]; exact ⟨by omega, by omega⟩
  | succ k => exact bAt_range s k
def consB (x : Int) : Bool := isSnd x && !hasF x 0
def vowB (x : Int) : Bool := hasF x 0
def nasB (x : Int) : Bool := hasF x 2
def vobB (x : Int) : Bool := isObs x && hasF x 1
def vlsB (x : Int) : Bool := isObs x && !hasF x 1
def edgB (x : Int) : Bool := x == 0
def anyB (_ : Int) : Bool := true
def nconsB (x : Int) : Bool := !consB x
def nvowB (x : Int) : Bool := !vowB x
/-- The k-th neighbours meet both. -/
def mkAt (P Q : Int → Bool) (s : ByteArray) (k : Nat) : Bool := P (eB s k) && Q (eB s (k + 1))
/-- The marks of a form. -/
def mkC (P Q : Int → Bool) (s : ByteArray) : Nat := if isFm s = true then cntP (mkAt P Q s) (s.size + 1) else 0
theorem mkC_no (P Q : Int → Bool) (s : ByteArray) (h : isFm s = false) : mkC P Q s = 0 := by unfold mkC; rw [h]; rfl
theorem mkC_in (P Q : Int → Bool) (s : ByteArray) (h : isFm s = true) : mkC P Q s = cntP (mkAt P Q s) (s.size + 1) := by unfold mkC; rw [h]; rfl
theorem mkC_le (P Q : Int → Bool) (s : ByteArray) : mkC P Q s ≤ 9 := by
  unfold mkC
  split
  · next h => exact Nat.le_trans (cntP_le _ _) (by have := isFm_size h; omega)
  · omega
theorem isFm_snd {s : ByteArray} (h : isFm s = true) (k : Nat) (hk : k < s.size) : isSnd (bAt s k) = true := by
  cases hn : isSnd (bAt s k) with
  | true => rfl
  | false =>
    rw [← bAt_in s k hk] at hn
    unfold isFm at h
    rw [l2S_not k hk hn] at h
    simp at h
theorem snd_range {x : Int} (h : isSnd x = true) : 0 ≤ x ∧ x < 256 := by
  unfold isSnd at h
  simp at h
  omega
theorem cons_snd {x : Int} (h : isSnd x = true) : consB x = !vowB x := by unfold consB vowB; rw [h]; simp
theorem cons_zero : consB 0 = false := by decide
theorem vow_zero : vowB 0 = false := by decide
theorem nas_zero : nasB 0 = false := by decide
theorem vob_zero : vobB 0 = false := by decide
theorem vls_zero : vlsB 0 = false := by decide
theorem edge_snd {x : Int} (h : isSnd x = true) : edgB x = false := by
  unfold isSnd at h; unfold edgB
  simp at h ⊢; omega
/-- The spec's own counting, one sound at a time, is that of the neighbours. -/
def onsP (s : ByteArray) (k : Nat) : Bool := vowAt s (k : Int) && (decide ((k : Int) = 0) || vowAt s ((k : Int) - 1))
def codP (s : ByteArray) (k : Nat) : Bool := !vowAt s (k : Int) && !vowAt s ((k : Int) + 1)
def cluP (s : ByteArray) (k : Nat) : Bool := decide (1 ≤ k) && (!vowAt s ((k : Int) - 1) && !vowAt s (k : Int))
def voiP (s : ByteArray) (k : Nat) : Bool := vobB (bAt s k)
def nasP (s : ByteArray) (k : Nat) : Bool := decide (1 ≤ k) && (hasF (bAt s (k - 1)) 2 && (isObs (bAt s k) && !hasF (bAt s k) 1))
theorem vowAt_vow (s : ByteArray) (k : Nat) : vowAt s (k : Int) = vowB (bAt s k) := by
  by_cases h : k < s.size
  · exact vowAt_in s k h
  · rw [bAt_out s k (by omega), vow_zero]
    unfold vowAt
    have : decide ((k : Int) < (s.size : Int)) = false := by simp; omega
    rw [this]; simp
theorem edge_last (P Q : Int → Bool) (s : ByteArray) (hQ : Q 0 = false) : cntP (mkAt P Q s) (s.size + 1) = cntP (mkAt P Q s) s.size := by
  refine cntP_no _ _ ?_
  unfold mkAt
  rw [eB_succ, bAt_out s s.size (Nat.le_refl _), hQ, Bool.and_false]
theorem ons_mk (s : ByteArray) (h : isFm s = true) : cntP (onsP s) s.size = mkC nconsB vowB s := by
  rw [mkC_in _ _ _ h, edge_last _ _ _ vow_zero]
  refine cntP_congr fun k hk => ?_
  unfold onsP mkAt nconsB
  rw [vowAt_vow, eB_succ, Bool.and_comm]
  cases k with
  | zero => simp [eB_zero, cons_zero]
  | succ k =>
    rw [show ((k + 1 : Nat) : Int) - 1 = (k : Int) by omega, vowAt_vow, eB_succ, cons_snd (isFm_snd h k (by omega)), Bool.not_not]
    have : decide (((k + 1 : Nat) : Int) = 0) = false := by simp; omega
    rw [this, Bool.false_or]
theorem cod_mk (s : ByteArray) (h : isFm s = true) : cntP (codP s) s.size = mkC consB nvowB s := by
  rw [mkC_in _ _ _ h, cntP_shift]
  have h0 : mkAt consB nvowB s 0 = false := by unfold mkAt; rw [eB_zero, cons_zero, Bool.false_and]
  rw [h0]
  simp only [Bool.false_eq_true, if_false, Nat.zero_add]
  refine cntP_congr fun k hk => ?_
  unfold codP mkAt nvowB
  rw [vowAt_vow, show (k : Int) + 1 = ((k + 1 : Nat) : Int) by omega, vowAt_vow, eB_succ, eB_succ, cons_snd (isFm_snd h k hk)]
theorem clu_mk (s : ByteArray) (h : isFm s = true) : cntP (cluP s) s.size = mkC consB consB s := by
  rw [mkC_in _ _ _ h, edge_last _ _ _ cons_zero]
  refine cntP_congr fun k hk => ?_
  unfold cluP mkAt
  cases k with
  | zero => simp [eB_zero, cons_zero]
  | succ k =>
    rw [show ((k + 1 : Nat) : Int) - 1 = (k : Int) by omega, vowAt_vow, vowAt_vow, eB_succ, eB_succ, cons_snd (isFm_snd h k (by omega)), cons_snd (isFm_snd h (k + 1) hk)]
    simp
theorem voi_mk (s : ByteArray) (h : isFm s = true) : cntP (voiP s) s.size = mkC anyB vobB s := by
  rw [mkC_in _ _ _ h, edge_last _ _ _ vob_zero]
  refine cntP_congr fun k hk => ?_
  unfold voiP mkAt anyB
  rw [eB_succ, Bool.true_and]
theorem nas_mk (s : ByteArray) (h : isFm s = true) : cntP (nasP s) s.size = mkC nasB vlsB s := by
  rw [mkC_in _ _ _ h, edge_last _ _ _ vls_zero]
  refine cntP_congr fun k hk => ?_
  unfold nasP mkAt
  cases k with
  | zero => simp [eB_zero, nas_zero]
  | succ k =>
    rw [eB_succ, eB_succ, Nat.add_sub_cancel]
    simp [nasB, vlsB]
theorem fin_mk (s : ByteArray) (h : isFm s = true) : mkC vobB edgB s = if vobB (eB s s.size) = true then 1 else 0 := by
  rw [mkC_in _ _ _ h, cntP_succ, cntP_none]
  · unfold mkAt
    rw [eB_succ, bAt_out s s.size (Nat.le_refl _)]
    have : edgB 0 = true := by decide
    rw [this, Bool.and_true, Nat.zero_add]
  · intro k hk
    unfold mkAt
    rw [eB_succ, edge_snd (isFm_snd h k hk), Bool.and_false]
theorem fin_empty (s : ByteArray) (h : s.size = 0) : vobB (eB s s.size) = false := by rw [h, eB_zero, vob_zero]
/-- A form without marks of five kinds. -/
def perf (s : ByteArray) : Bool := isFm s && ((mkC nconsB vowB s : Int) + (mkC consB nvowB s : Int) + (mkC consB consB s : Int) + (mkC anyB vobB s : Int) + (mkC nasB vlsB s : Int) == 0)
end Go.Proofs.YtlcjpbjnjnolfaaDoor
