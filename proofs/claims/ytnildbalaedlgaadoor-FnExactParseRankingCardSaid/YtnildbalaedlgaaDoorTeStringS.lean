/- The laws' eqStringS. -/
import Derived.Test.YtnildbalaedlgaaDoorRp
import Derived.Test.YtnildbalaedlgaaDoorLk
import Derived.WalkKit
import Derived.BigQuiet
import Derived.Lib.QuietBelow
import Derived.Test.YtnildbalaedlgaaDoorRows
import Derived.Test.YtnildbalaedlgaaDoorRet
namespace Go.Proofs.YtnildbalaedlgaaDoor
set_option maxRecDepth 100000
open Go.RowKit Go.Sort
set_option linter.unusedVariables false
set_option linter.unusedSimpArgs false

set_option maxHeartbeats 1000000 in
theorem eqStrs_any (v u : Value) (l : List ByteArray) (F G : Addr → Prop) (w : World) (hv : RowRd (Rep.str mkT) false w v l F) (hu : RowRd (Rep.str mkT) false w u l G) :
    Calls Tryd.prog 10 #[v, u] w fun e w' => e = .returned (.bool true) ∧ Below w.heap.size w w' := by
  obtain ⟨A, cap, rfl⟩ := hv.form
  obtain ⟨A2, cap2, rfl⟩ := hu.form
  have hmx := hv.max
  have HV := Lib.hid hv
  have HU := Lib.hid hu
  clear hv hu
  have HX : Hid (∀ k, k < l.length → ∃ x, l[k]? = some x) := fun k hk => ⟨_, List.getElem?_eq_getElem hk⟩
  generalize hll : l.length = n at *
  clear hll
  go_enter Tryd.func10, Tryd.ntmps10
  go_wp2
  go_loopw [5] (fun i wr => ∃ (k : Nat), k ≤ n ∧ i = .int .i64 k ∧ Below w.heap.size w wr) (fun i _ => n - (intOf i).toNat)
  case atStart => exact ⟨0, by omega, rfl, Below.refl _ _⟩
  case round =>
    obtain ⟨k, hk, rfl, hbe⟩ := hrel
    have HBE := Lib.hid hbe
    clear hbe
    by_cases hkl : k < n
    · obtain ⟨x, hx⟩ := HX.out k hkl
      obtain ⟨g, off, xs, Fk, rfl, _, rc, _, hc⟩ := (HV.out.kept HBE.out).get hx
      obtain ⟨g2, off2, ys, Gk, rfl, _, rd, _, hd⟩ := (HU.out.kept HBE.out).get hx
      simp only [show (Rep.str mkT).size = 1 from rfl, Nat.mul_one] at hc hd
      obtain ⟨rfl, _⟩ := id rc
      obtain ⟨rfl, _⟩ := id rd
      have c0 := hc 0 _ rfl
      have d0 := hd 0 _ rfl
      simp only [Nat.add_zero] at c0 d0
      clear hc hd rc rd hx
      go_wp2
      go_quiet (fail)
      go_wp2
      go_roundw
      case rel => exact ⟨k + 1, by omega, by go_num, ⟨HBE.out.os, HBE.out.tape, HBE.out.output, HBE.out.size, HBE.out.block⟩⟩
      case measure => simp [intOf]; omega
    · obtain rfl : k = n := by omega
      go_wp2
      go_ret
      exact ⟨rfl, HBE.out⟩
end Go.Proofs.YtnildbalaedlgaaDoor
