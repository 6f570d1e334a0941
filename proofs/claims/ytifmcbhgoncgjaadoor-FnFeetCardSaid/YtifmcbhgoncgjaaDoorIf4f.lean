/- The program's EqualFootings: what it answers. -/
import Derived.Test.YtifmcbhgoncgjaaDoorSf4
import Derived.BigRegion
import Derived.BigQuiet
namespace Go.Proofs.YtifmcbhgoncgjaaDoor
open Go.RowKit
set_option linter.unusedVariables false
set_option linter.unusedSimpArgs false

set_option maxHeartbeats 4000000 in
theorem implEqS_any (l m : List DFoot) (v1 u1 : Value) (F G : Addr → Prop) (w : World) (hv : RowRd rFoot false w v1 l F) (hu : RowRd rFoot false w u1 m G) :
    Calls Tryd.prog 41 #[v1, u1] w fun e w' => e = .returned (.bool (decide (l = m))) ∧ Below w.heap.size w w' := by
  have hmx := hv.max
  have hmy := hu.max
  obtain ⟨A, cap, rfl⟩ := hv.form
  obtain ⟨A2, cap2, rfl⟩ := hu.form
  have HV := Lib.hid hv
  have HU := Lib.hid hu
  have HX : Hid (∀ k, k < l.length → ∃ z, l[k]? = some z) := fun k hk => ⟨_, List.getElem?_eq_getElem hk⟩
  have HY : Hid (∀ k, k < m.length → ∃ z, m[k]? = some z) := fun k hk => ⟨_, List.getElem?_eq_getElem hk⟩
  have HQ : Hid ((l = m → decide (l = m) = true) ∧ (¬ l = m → decide (l = m) = false)) := ⟨decide_eq_true, decide_eq_false⟩
  have HD : Hid (∀ k a b, l[k]? = some a → m[k]? = some b → ¬ a = b → ¬ l = m) := fun k a b h1 h2 h => feet_differ h1 h2 h
  have HL : Hid (¬ l.length = m.length → ¬ l = m) := fun h e => h (by rw [e])
  have HALL : Hid (l.length = m.length → (∀ k, k < l.length → l[k]? = m[k]?) → l = m) := fun hl h => by
    apply List.ext_getElem?
    intro k
    by_cases hk : k < l.length
    · exact h k hk
    · rw [List.getElem?_eq_none (by omega), List.getElem?_eq_none (by omega)]
  clear hv hu
  generalize decide (l = m) = r at *
  generalize hln : l.length = n at *
  generalize hlm : m.length = n2 at *
  have HLN := Lib.hid hln
  have HLM := Lib.hid hlm
  clear hln hlm
  go_enter Tryd.func41, Tryd.ntmps41
  by_cases hN : n = n2
  case neg =>
    have HR : Hid (r = false) := HQ.out.2 (HL.out hN)
    have hN2 : ¬ (n : Int) = (n2 : Int) := by omega
    go_wp2
    go_ret
    exact ⟨ret_bool HR.out.symm, Below.refl _ _⟩
  subst hN
  have hg := eqGuardF
  have hef := equalF
  go_wp2
  go_loopw [13] (fun i wr => ∃ (k : Nat), k ≤ n ∧ i = .int .i64 k ∧ Hid (∀ j, j < k → l[j]? = m[j]?) ∧ Below w.heap.size w wr) (fun i _ => n - (intOf i).toNat)
  case atStart => exact ⟨0, by omega, rfl, fun j hj => by omega, Below.refl _ _⟩
  case round =>
    obtain ⟨k, hk, rfl, hall, hbe⟩ := hrel
    have HBE := Lib.hid hbe
    clear hbe
    by_cases hkl : k < n
    · obtain ⟨a, ha⟩ := HX.out k hkl
      obtain ⟨b, hb⟩ := HY.out k hkl
      obtain ⟨g, off, xs, Fk, rfl, _, hra, _, hca⟩ := (HV.out.kept HBE.out).get ha
      obtain ⟨g2, off2, ys, Gk, rfl, _, hrb, _, hcb⟩ := (HU.out.kept HBE.out).get hb
      obtain ⟨rfl, _, _, _⟩ := rFoot_rd hra
      obtain ⟨rfl, _, _, _⟩ := rFoot_rd hrb
      rw [rFoot_size] at hca hcb
      have c0 := hca 0 _ rfl
      have c1 := hca 1 _ rfl
      have c2 := hca 2 _ rfl
      have d0 := hcb 0 _ rfl
      have d1 := hcb 1 _ rfl
      have d2 := hcb 2 _ rfl
      simp only [Nat.add_zero] at c0 d0
      have HDK := Lib.hid (HD.out k a b ha hb)
      have HAB : Hid (a = b ↔ a.From = b.From ∧ a.Size = b.Size ∧ a.Head = b.Head) := foot_eq
      have HEQ : Hid (a = b → ∀ j, j < k + 1 → l[j]? = m[j]?) := fun e j hj => by
        by_cases hjk : j = k
        · subst hjk; rw [ha, hb, e]
        · exact hall.out j (by omega)
      clear hca hcb hra hrb ha hb
      by_cases hab : a.From = b.From ∧ a.Size = b.Size ∧ a.Head = b.Head
      · have HE2 := Lib.hid (HEQ.out (HAB.out.2 hab))
        generalize a.From = a0 at *
        generalize a.Size = a1 at *
        generalize a.Head = a2 at *
        generalize b.From = b0 at *
        generalize b.Size = b1' at *
        generalize b.Head = b2' at *
        obtain ⟨rfl, rfl, rfl⟩ := hab
        go_wp2
        go_quiet (fail)
        go_wp2
        go_roundw
        case rel => exact ⟨k + 1, by omega, by go_num, HE2, ⟨HBE.out.os, HBE.out.tape, HBE.out.output, HBE.out.size, HBE.out.block⟩⟩
        case measure => simp [intOf]; omega
      · have HR : Hid (r = false) := by exact HQ.out.2 (fun h => HDK.out (fun e => hab (HAB.out.1 e)) h)
        generalize a.From = a0 at *
        generalize a.Size = a1 at *
        generalize a.Head = a2 at *
        generalize b.From = b0 at *
        generalize b.Size = b1' at *
        generalize b.Head = b2' at *
        go_wp2
        go_quiet (fail)
        go_wp2
        go_ret
        exact ⟨ret_bool HR.out.symm, ⟨HBE.out.os, HBE.out.tape, HBE.out.output, HBE.out.size, HBE.out.block⟩⟩
    · obtain rfl : k = n := by omega
      have HR : Hid (r = true) := by exact HQ.out.1 (HALL.out (by trivial) (fun j hj => hall.out j hj))
      go_wp2
      go_ret
      exact ⟨ret_bool HR.out.symm, HBE.out⟩
set_option maxHeartbeats 4000000 in
theorem implEqF_any (x y : DFooting) (v1 u1 : Value) (F G : Addr → Prop) (w : World) (hv : RowRd rFoot false w v1 x.Feet F) (hu : RowRd rFoot false w u1 y.Feet G) :
    Calls Tryd.prog 24 #[.agg #[.int .i64 x.Syllables, v1, .int .i64 x.Main], .agg #[.int .i64 y.Syllables, u1, .int .i64 y.Main]] w fun e w' => e = .returned (.bool (feq x y)) ∧ Below w.heap.size w w' := by
  have HQ : Hid (feq x y = decide (x.Syllables = y.Syllables ∧ x.Main = y.Main ∧ x.Feet = y.Feet)) := by unfold Hid feq; exact decide_eq_decide.2 footing_eq
  have HE : Hid (∀ W, Below w.heap.size w W → Calls Tryd.prog 41 #[v1, u1] W fun e w' => e = .returned (.bool (decide (x.Feet = y.Feet))) ∧ Below W.heap.size W w') := fun W hW => implEqS_any _ _ v1 u1 F G W (hv.kept hW) (hu.kept hW)
  obtain ⟨A, cap, rfl⟩ := hv.form
  obtain ⟨A2, cap2, rfl⟩ := hu.form
  clear hv hu
  have HB2 : Hid (∀ o p, Below w.heap.size w ((w.alloc o).alloc p)) := fun o p => ((Below.refl _ _).alloc (Nat.le_refl _) _).alloc (by simp) _
  generalize feq x y = r at *
  generalize x.Syllables = S at *
  generalize y.Syllables = S2 at *
  generalize x.Main = M at *
  generalize y.Main = M2 at *
  generalize x.Feet = l at *
  generalize y.Feet = m at *
  go_enter Tryd.func24, Tryd.ntmps24
  by_cases hS : S = S2
  case neg =>
    have HR : Hid (r = false) := by unfold Hid; rw [HQ.out]; exact decide_eq_false (fun h => hS h.1)
    go_wp2
    go_ret
    exact ⟨ret_bool HR.out.symm, ((Below.refl _ _).alloc (Nat.le_refl _) _).alloc (by simp) _⟩
  by_cases hM : M = M2
  case neg =>
    have HR : Hid (r = false) := by unfold Hid; rw [HQ.out]; exact decide_eq_false (fun h => hM h.2.1)
    go_wp2
    go_ret
    exact ⟨ret_bool HR.out.symm, ((Below.refl _ _).alloc (Nat.le_refl _) _).alloc (by simp) _⟩
  subst hS hM
  have HR : Hid (r = decide (l = m)) := by
    unfold Hid; rw [HQ.out]
    exact decide_eq_decide.2 ⟨fun h => h.2.2, fun h => ⟨rfl, rfl, h⟩⟩
  go_wp2_with fail
  refine (HE.out _ (HB2.out _ _)).mono ?_
  rintro e w1 ⟨rfl, hb1⟩
  have HB1 : Hid (Below w.heap.size w w1) := (HB2.out _ _).trans (hb1.mono (by simp; omega))
  clear hb1
  go_wp2
  go_ret
  exact ⟨ret_bool HR.out.symm, HB1.out⟩
end Go.Proofs.YtifmcbhgoncgjaaDoor
