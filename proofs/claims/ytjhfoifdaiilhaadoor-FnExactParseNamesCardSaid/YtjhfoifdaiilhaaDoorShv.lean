/- What a list of sounds shares: plain mathematics. -/
import Derived.Test.YtjhfoifdaiilhaaDoorSnd
namespace Go.Proofs.YtjhfoifdaiilhaaDoor
set_option maxRecDepth 100000

def sg (x : Int) (k : Nat) : Int := if hasF x k then 1 else -1
theorem sg_yes {x : Int} {k : Nat} (h : hasF x k = true) : sg x k = 1 := by unfold sg; rw [if_pos h]
theorem sg_no {x : Int} {k : Nat} (h : hasF x k = false) : sg x k = -1 := by unfold sg; rw [if_neg (by simp [h])]
def com (A B : Nat → Int) (k : Nat) : Int := if A k = B k then A k else 0
theorem com_eq {A B : Nat → Int} {k : Nat} (h : A k = B k) : com A B k = A k := by unfold com; rw [if_pos h]
theorem com_ne {A B : Nat → Int} {k : Nat} (h : A k ≠ B k) : com A B k = 0 := by unfold com; rw [if_neg h]
/-- A byte's number. -/
def nb (b : UInt8) : Int := (b.toNat : Int)
theorem nb_ge (b : UInt8) : 0 ≤ nb b := by unfold nb; omega
theorem nb_lt (b : UInt8) : nb b < 256 := by unfold nb; have := UInt8.toNat_lt b; omega
/-- What all sounds of a list share: 1 if all have the feature, -1 if none has, else 0. -/
def shv (l : List UInt8) (k : Nat) : Int := if l.all (fun b => hasF (nb b) k) then 1 else if l.all (fun b => !hasF (nb b) k) then -1 else 0
theorem shv_one (b : UInt8) : shv [b] = sg (nb b) := by
  funext k
  unfold shv sg
  cases h : hasF (nb b) k <;> simp [h]
theorem shv_step (p : List UInt8) (b : UInt8) (hp : p ≠ []) : com (shv p) (sg (nb b)) = shv (p ++ [b]) := by
  funext k
  unfold com shv sg
  simp only [List.all_append, List.all_cons, List.all_nil, Bool.and_true]
  cases h1 : p.all (fun b => hasF (nb b) k) <;> cases h2 : p.all (fun b => !hasF (nb b) k) <;> cases h3 : hasF (nb b) k <;> simp
  -- both: the list is empty
  all_goals
    exfalso
    cases p with
    | nil => exact hp rfl
    | cons c p =>
      simp only [List.all_cons, Bool.and_eq_true] at h1 h2
      have := h1.1
      rw [this] at h2
      exact absurd h2.1 (by simp)
theorem shv_self (b : UInt8) : com (shv [b]) (sg (nb b)) = shv [b] := by
  funext k
  rw [shv_one]
  exact com_eq rfl
/-- A text that has shared features. -/
def okCls (l : List UInt8) : Bool := !l.isEmpty && decide (l.length ≤ 20) && l.all (fun b => isSnd (nb b))
end Go.Proofs.YtjhfoifdaiilhaaDoor
