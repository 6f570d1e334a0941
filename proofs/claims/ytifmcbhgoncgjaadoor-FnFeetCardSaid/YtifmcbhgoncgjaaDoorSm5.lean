/- The laws' sameInts. -/
import Derived.Test.YtifmcbhgoncgjaaDoorSf7
namespace Go.Proofs.YtifmcbhgoncgjaaDoor
open Go.RowKit
set_option linter.unusedVariables false
set_option linter.unusedSimpArgs false

set_option maxHeartbeats 1000000 in
theorem same5_any (v u : Value) (l m : List Int) (F G : Addr → Prop) (w : World) (hv : RowRd Rep.int false w v l F) (hu : RowRd Rep.int false w u m G) :
    Calls Tryd.prog 11 #[v, u] w fun e w' => e = .returned (.bool (decide (l = m))) ∧ Below w.heap.size w w' := by
  obtain ⟨A, cap, rfl⟩ := hv.form
  obtain ⟨A2, cap2, rfl⟩ := hu.form
  have hmx := hv.max
  have hmy := hu.max
  have HV := Lib.hid hv
  have HU := Lib.hid hu
  clear hv hu
  have HX : Hid (∀ k, k < l.length → ∃ x, l[k]? = some x) := fun k hk => ⟨_, List.getElem?_eq_getElem hk⟩
  have HY : Hid (∀ k, k < m.length → ∃ x, m[k]? = some x) := fun k hk => ⟨_, List.getElem?_eq_getElem hk⟩
  have HD : Hid (∀ (k : Nat) (x y : Int), l[k]? = some x → m[k]? = some y → ¬ x = y → ¬ l = m) := fun k x y h1 h2 h => ints_differ h1 h2 h
  have HL : Hid (¬ l.length = m.length → ¬ l = m) := fun h e => h (by rw [e])
  have HALL : Hid (l.length = m.length → (∀ k, k < l.length → l[k]? = m[k]?) → l = m) := list_same
  have HR : Hid ((l = m → decide (l = m) = true) ∧ (¬ l = m → decide (l = m) = false)) := ⟨fun h => decide_eq_true h, fun h => decide_eq_false h⟩
  generalize decide (l = m) = r at *
  generalize hln : l.length = n at *
  generalize hlm : m.length = n2 at *
  clear hln hlm
  go_enter Tryd.func11, Tryd.ntmps11
  by_cases hN : n = n2
  case neg =>
    have hN2 : ¬ (n : Int) = (n2 : Int) := by omega
    have HF := Lib.hid (HR.out.2 (HL.out hN))
    go_wp2
    go_ret
    exact ⟨ret_bool HF.out.symm, Below.refl _ _⟩
  subst hN
  go_wp2
  go_loopw [5] (fun i wr => ∃ (k : Nat), k ≤ n ∧ i = .int .i64 k ∧ Hid (∀ j, j < k → l[j]? = m[j]?) ∧ Below w.heap.size w wr) (fun i _ => n - (intOf i).toNat)
  case atStart => exact ⟨0, by omega, rfl, fun j hj => by omega, Below.refl _ _⟩
  case round =>
    obtain ⟨k, hk, rfl, hall, hbe⟩ := hrel
    have HBE := Lib.hid hbe
    clear hbe
    by_cases hkl : k < n
    · obtain ⟨x, hx⟩ := HX.out k hkl
      obtain ⟨y, hy⟩ := HY.out k hkl
      obtain ⟨g, off, xs, Fk, rfl, _, hrx, _, hcx⟩ := (HV.out.kept HBE.out).get hx
      obtain ⟨g2, off2, ys, Gk, rfl, _, hry, _, hcy⟩ := (HU.out.kept HBE.out).get hy
      obtain ⟨rfl, _⟩ := id hrx
      obtain ⟨rfl, _⟩ := id hry
      have c0 := hcx 0 _ rfl
      have d0 := hcy 0 _ rfl
      simp only [show Rep.int.size = 1 from rfl, Nat.mul_one, Nat.add_zero] at c0 d0
      have HDK := Lib.hid (HD.out k x y hx hy)
      have HEQ : Hid (x = y → ∀ j, j < k + 1 → l[j]? = m[j]?) := fun e j hj => by
        by_cases hjk : j = k
        · subst hjk; rw [hx, hy, e]
        · exact hall.out j (by omega)
      clear hcx hcy hrx hry hx hy
      by_cases hxy : x = y
      · have HE2 := Lib.hid (HEQ.out hxy)
        subst hxy
        go_wp2
        go_quiet (fail)
        go_wp2
        go_roundw
        case rel => exact ⟨k + 1, by omega, by go_num, HE2, ⟨HBE.out.os, HBE.out.tape, HBE.out.output, HBE.out.size, HBE.out.block⟩⟩
        case measure => simp [intOf]; omega
      · have HF := Lib.hid (HR.out.2 (HDK.out hxy))
        go_wp2
        go_quiet (fail)
        go_wp2
        go_ret
        exact ⟨ret_bool HF.out.symm, ⟨HBE.out.os, HBE.out.tape, HBE.out.output, HBE.out.size, HBE.out.block⟩⟩
    · obtain rfl : k = n := by omega
      have HF := Lib.hid (HR.out.1 (HALL.out (by trivial) (fun j hj => hall.out j hj)))
      go_wp2
      go_ret
      exact ⟨ret_bool HF.out.symm, HBE.out⟩
end Go.Proofs.YtifmcbhgoncgjaaDoor
