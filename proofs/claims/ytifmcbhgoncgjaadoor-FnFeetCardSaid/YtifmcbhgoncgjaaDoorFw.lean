/- The footings that the program's filling lays: plain mathematics. -/
import Derived.Test.YtifmcbhgoncgjaaDoorSf6
namespace Go.Proofs.YtifmcbhgoncgjaaDoor
open Go.RowKit
set_option linter.unusedVariables false
set_option linter.unusedSimpArgs false

def mkF (a z h : Nat) : DFoot := ⟨(a : Int), (z : Int), (h : Int)⟩
/-- What is laid once r stands and d syllables are left from a on. -/
def fillL (N : Nat) (r : List DFoot) (d a : Nat) : List DFooting := (feetD d a).flatMap fun q => footR N (r ++ q) (r ++ q).length
theorem fillL_zero (N : Nat) (r : List DFoot) (a : Nat) : fillL N r 0 a = footR N r r.length := by simp [fillL, feetD]
theorem fillL_all (N : Nat) : fillL N [] N 0 = footL N := by simp [fillL, footL]
theorem fillL_cons (N : Nat) (r : List DFoot) (a z h : Nat) (R : List (List DFoot)) : ((consF a z h R).flatMap fun q => footR N (r ++ q) (r ++ q).length) = R.flatMap fun q => footR N ((r ++ [mkF a z h]) ++ q) ((r ++ [mkF a z h]) ++ q).length := by
  unfold consF
  rw [List.flatMap_map]
  congr 1
  funext q
  simp [mkF]
/-- With a foot at a. -/
def fF (N : Nat) (r : List DFoot) (d a z h : Nat) : List DFooting := fillL N (r ++ [mkF a z h]) (d - z) (a + z)
theorem fillL_one (N : Nat) (r : List DFoot) (a : Nat) : fillL N r 1 a = fillL N r 0 (a + 1) ++ fF N r 1 a 1 0 := by
  have e : feetD 1 a = feetD 0 (a + 1) ++ consF a 1 0 (feetD 0 (a + 1)) := rfl
  unfold fF
  unfold fillL
  rw [e, List.flatMap_append, fillL_cons]
theorem fillL_two (N : Nat) (r : List DFoot) (d a : Nat) : fillL N r (d + 2) a = fillL N r (d + 1) (a + 1) ++ fF N r (d + 2) a 1 0 ++ fF N r (d + 2) a 2 0 ++ fF N r (d + 2) a 2 1 := by
  have e : feetD (d + 2) a = feetD (d + 1) (a + 1) ++ consF a 1 0 (feetD (d + 1) (a + 1)) ++ consF a 2 0 (feetD d (a + 2)) ++ consF a 2 1 (feetD d (a + 2)) := rfl
  unfold fF
  unfold fillL
  rw [e, List.flatMap_append, List.flatMap_append, List.flatMap_append, fillL_cons, fillL_cons, fillL_cons]
  rfl
/-- Heads below h at size z. -/
def fS (N : Nat) (r : List DFoot) (d a z : Nat) : Nat → List DFooting
  | 0 => []
  | h + 1 => fS N r d a z h ++ fF N r d a z h
/-- Sizes up to z. -/
def fP (N : Nat) (r : List DFoot) (d a : Nat) : Nat → List DFooting
  | 0 => fillL N r (d - 1) (a + 1)
  | z + 1 => fP N r d a z ++ fS N r d a (z + 1) (z + 1)
theorem fP_end {N : Nat} {r : List DFoot} {d a : Nat} (hd : 0 < d) : fP N r d a (min 2 d) = fillL N r d a := by
  match d, hd with
  | 1, _ => simp only [show min 2 1 = 1 from rfl, fP, fS, fillL_one, List.nil_append, Nat.sub_self]
  | d + 2, _ =>
    rw [show min 2 (d + 2) = 2 by omega, fillL_two]
    simp only [fP, fS, List.nil_append, List.append_assoc]
    rfl
theorem flat_len {α β : Type} (f : α → List β) (k : Nat) : ∀ (l : List α), (∀ x ∈ l, (f x).length ≤ k) → (l.flatMap f).length ≤ l.length * k
  | [], _ => by simp
  | x :: l, h => by
    rw [List.flatMap_cons, List.length_append, List.length_cons, Nat.succ_mul]
    have h1 := h x (List.mem_cons_self ..)
    have h2 := flat_len f k l (fun y hy => h y (List.mem_cons_of_mem _ hy))
    omega
theorem fillL_len {N : Nat} {r : List DFoot} {d a : Nat} (h : r.length + d ≤ 4) : (fillL N r d a).length ≤ 176 := by
  unfold fillL
  refine Nat.le_trans (flat_len _ 4 _ fun q hq => ?_) ?_
  · unfold footR
    rw [List.length_map, List.length_range, List.length_append]
    have := feetD_row d a q hq
    omega
  · rw [feetD_len]
    have := feetN_le (d := d) (by omega)
    omega
theorem fF_len {N : Nat} {r : List DFoot} {d a z h : Nat} (hr : r.length + d ≤ 4) (hz : 1 ≤ z) (hzd : z ≤ d) : (fF N r d a z h).length ≤ 176 := by
  refine fillL_len ?_
  rw [List.length_append, List.length_singleton]
  omega
theorem fS_len {N : Nat} {r : List DFoot} {d a z : Nat} (hr : r.length + d ≤ 4) (hz : 1 ≤ z) (hzd : z ≤ d) : ∀ h, (fS N r d a z h).length ≤ h * 176
  | 0 => by simp [fS]
  | h + 1 => by
    rw [fS, List.length_append]
    have h1 := fS_len (N := N) (a := a) hr hz hzd h
    have h2 := fF_len (N := N) (a := a) (h := h) hr hz hzd
    omega
theorem fP_len {N : Nat} {r : List DFoot} {d a : Nat} (hd : 0 < d) (hr : r.length + d ≤ 4) : ∀ z, z ≤ 2 → z ≤ d → (fP N r d a z).length ≤ 176 + z * 352
  | 0, _, _ => by
    rw [fP]
    have := fillL_len (N := N) (r := r) (d := d - 1) (a := a + 1) (by omega)
    omega
  | z + 1, h2, hzd => by
    rw [fP, List.length_append]
    have h3 := fP_len (N := N) (a := a) hd hr z (by omega) (by omega)
    have h4 := fS_len (N := N) (a := a) (z := z + 1) hr (by omega) hzd (z + 1)
    have : (z + 1) * 176 ≤ 352 := by omega
    omega
end Go.Proofs.YtifmcbhgoncgjaaDoor
