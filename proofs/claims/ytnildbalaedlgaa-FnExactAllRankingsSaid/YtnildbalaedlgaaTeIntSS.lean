/- The laws' eqIntSS. -/
import Derived.Test.YtnildbalaedlgaaRp
import Derived.Test.YtnildbalaedlgaaTeIntS
import Derived.WalkKit
import Derived.BigQuiet
import Derived.Lib.QuietBelow
import Derived.Test.YtnildbalaedlgaaRows
import Derived.Test.YtnildbalaedlgaaRet
namespace Go.Proofs.Ytnildbalaedlgaa
set_option maxRecDepth 100000
open Go.RowKit Go.Sort
set_option linter.unusedVariables false
set_option linter.unusedSimpArgs false

set_option maxHeartbeats 1000000 in
theorem eqIntSS_any (v u : Value) (l : List (List Int)) (F G : Addr → Prop) (w : World) (hv : RowRd (Rep.row Rep.int) false w v l F) (hu : RowRd (Rep.row Rep.int) false w u l G) :
    Calls Try.prog 17 #[v, u] w fun e w' => e = .returned (.bool true) ∧ Below w.heap.size w w' := by
  obtain ⟨A, cap, rfl⟩ := hv.form
  obtain ⟨A2, cap2, rfl⟩ := hu.form
  have hmx := hv.max
  have HV := Lib.hid hv
  have HU := Lib.hid hu
  clear hv hu
  have HX : Hid (∀ k, k < l.length → ∃ x, l[k]? = some x) := fun k hk => ⟨_, List.getElem?_eq_getElem hk⟩
  generalize hll : l.length = n at *
  clear hll
  go_enter Try.func17, Try.ntmps17
  go_wp2
  go_loopw [5] (fun i wr => ∃ (k : Nat), k ≤ n ∧ i = .int .i64 k ∧ Below w.heap.size w wr) (fun i _ => n - (intOf i).toNat)
  case atStart => exact ⟨0, by omega, rfl, Below.refl _ _⟩
  case round =>
    obtain ⟨k, hk, rfl, hbe⟩ := hrel
    have HBE := Lib.hid hbe
    clear hbe
    by_cases hkl : k < n
    · obtain ⟨x, hx⟩ := HX.out k hkl
      obtain ⟨g, off, xs, Fk, rfl, _, rc, _, hc⟩ := (HV.out.kept HBE.out).get hx
      obtain ⟨g2, off2, ys, Gk, rfl, _, rd, _, hd⟩ := (HU.out.kept HBE.out).get hx
      simp only [show (Rep.row Rep.int).size = 1 from rfl, Nat.mul_one] at hc hd
      obtain ⟨v0, rfl, qc⟩ := id rc
      obtain ⟨u0, rfl, qd⟩ := id rd
      have c0 := hc 0 _ rfl
      have d0 := hd 0 _ rfl
      simp only [Nat.add_zero] at c0 d0
      have c0 := fun d os => cell_regrown c0 d os
      have d0 := fun d os => cell_regrown d0 d os
      have cS : ∀ d os, Calls Try.prog 12 #[v0, u0] (grow (redrawn wr d) os) fun e w'' => e = .returned (.bool true) ∧ ∃ p : Regrown, w'' = grow (redrawn wr p.d) p.os :=
        fun d os => Calls.regrown_of (eqIntS_any v0 u0 x Fk Gk _ (qc.kept (below_regrown wr d os)) (qd.kept (below_regrown wr d os)))
      clear hc hd rc rd hx qc qd
      go_wp2
      refine wp_region_quiet_below (by kernel_rfl) (by kernel_rfl) ?_
      repeat (quiet_step (exact cS _ _))
      refine wpQuiet_nil ?_
      intro _ hw'
      obtain ⟨⟨dq, osq⟩, hw''⟩ := hw'
      subst hw''
      go_wp2
      go_roundw
      case rel => exact ⟨k + 1, by omega, by go_num, HBE.out.trans ((below_regrown wr dq osq).mono HBE.out.size)⟩
      case measure => simp [intOf]; omega
    · obtain rfl : k = n := by omega
      go_wp2
      go_ret
      exact ⟨rfl, HBE.out⟩
end Go.Proofs.Ytnildbalaedlgaa
