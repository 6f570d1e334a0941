/- The model's and the program's HasFeature: what they answer. -/
import Derived.Test.YtlcjpbjnjnolfaaDoorFt
import Derived.Test.YtlcjpbjnjnolfaaDoorSh
import Derived.Test.YtlcjpbjnjnolfaaDoorSi
import Derived.Laws.IdiomStrings
import Derived.Lib.Slices
namespace Go.Proofs.YtlcjpbjnjnolfaaDoor
set_option maxRecDepth 100000
open Go.RowKit

theorem isFeature_any (f : Int) (w : World) :
    Calls Tryd.prog 47 #[.int .i64 f] w fun e w' => e = .returned (.bool (decide (0 ≤ f) && decide (f < 5))) ∧ w = w' := by
  go_enter Tryd.func47, Tryd.ntmps47
  go_wp2
  all_goals
    go_ret
    refine ⟨ret_bool ?_, rfl⟩
    simp_all <;> omega
theorem implHas_in (x : Int) (k : Nat) (hk : k < 5) (w : World) (h0 : 0 ≤ x) (h1 : x < 256) (hT : FeatTab w) :
    Calls Tryd.prog 42 #[.int .u8 x, .int .i64 k] w fun e w' => e = .returned (.bool (hasF x k)) ∧ w = w' := by
  have H := Lib.hid (feat_index x k h0 h1 hk)
  have hc := feat_cell hT k hk
  have hb : (decide (0 ≤ (k : Int)) && decide ((k : Int) < 5)) = true := by simp; omega
  clear h0 h1 hT
  go_enter Tryd.func42, Tryd.ntmps42
  go_wp2_with fail
  refine (isFeature_any _ _).mono ?_
  rintro e w1 ⟨rfl, rfl⟩
  go_wp2_with fail
  refine (idxByte _ _ _).mono ?_
  rintro e w1 ⟨rfl, rfl⟩
  go_wp2
  go_ret
  exact ⟨ret_bool H.out, rfl⟩
theorem implHas_out (x f : Int) (w : World) (h : f < 0 ∨ 4 < f) :
    Calls Tryd.prog 42 #[.int .u8 x, .int .i64 f] w fun e w' => e = .returned (.bool (hasF x f)) ∧ w = w' := by
  have H := Lib.hid (hasF_no x f h)
  have hb : (decide (0 ≤ f) && decide (f < 5)) = false := by simp; omega
  clear h
  go_enter Tryd.func42, Tryd.ntmps42
  go_wp2_with fail
  refine (isFeature_any _ _).mono ?_
  rintro e w1 ⟨rfl, rfl⟩
  go_wp2
  go_ret
  exact ⟨ret_bool H.out.symm, rfl⟩
theorem implHas_any (x f : Int) (w : World) (h0 : 0 ≤ x) (h1 : x < 256) (hT : FeatTab w) :
    Calls Tryd.prog 42 #[.int .u8 x, .int .i64 f] w fun e w' => e = .returned (.bool (hasF x f)) ∧ w = w' := by
  by_cases h : 0 ≤ f ∧ f < 5
  · obtain ⟨k, rfl⟩ := Int.eq_ofNat_of_zero_le h.1
    exact implHas_in x k (by omega) w h0 h1 hT
  · exact implHas_out x f w (by omega)
end Go.Proofs.YtlcjpbjnjnolfaaDoor
