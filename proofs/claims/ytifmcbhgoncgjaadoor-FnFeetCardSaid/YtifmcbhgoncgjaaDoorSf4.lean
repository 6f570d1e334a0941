/- The model's EqualFootings: what it answers. -/
import Derived.Test.YtifmcbhgoncgjaaDoorFo
import Derived.Test.YtifmcbhgoncgjaaDoorRows
import Derived.Test.YtifmcbhgoncgjaaDoorRet
import Derived.WalkKit
import Derived.BigRegion
import Derived.BigQuiet
import Derived.Laws.StructEq
namespace Go.Proofs.YtifmcbhgoncgjaaDoor
open Go.RowKit
set_option linter.unusedVariables false
set_option linter.unusedSimpArgs false

theorem eqGuardF : Tryd.prog.eqGuardType Tryd.prog.depth 53 = false := by kernel_rfl
theorem equalF (a b c a' b' c' : Int) (w : World) : (Op.equalIn 10000 53 (.agg #[.int .i64 a, .int .i64 b, .int .i64 c]) (.agg #[.int .i64 a', .int .i64 b', .int .i64 c'])).run Tryd.prog w = .ok (decide (a = a' ∧ b = b' ∧ c = c')) w := by
  rw [run_equalIn_struct w 9999 53 _ _ (by kernel_rfl) (by kernel_rfl)]
  unfold Program.fieldsOf
  rw [Tryd.underlying53]
  have he : ∀ (d : Nat) (a b : Int) (w : World), (Op.equalIn (d + 1) 3 (.int .i64 a) (.int .i64 b)).run Tryd.prog w = .ok (decide (a = b)) w := fun d a b w => by
    rw [run_equalIn_int w d 3 .i64 .i64 a b Tryd.underlying3]
    congr 1
  by_cases h1 : a = a'
  · by_cases h2 : b = b'
    · by_cases h3 : c = c'
      · simp [Op.eqFields, part, Sem.run_bind, Tryd.isAgg3, he 9998, h1, h2, h3]
      · simp [Op.eqFields, part, Sem.run_bind, Tryd.isAgg3, he 9998, h1, h2, h3]
    · simp [Op.eqFields, part, Sem.run_bind, Tryd.isAgg3, he 9998, h1, h2]
  · simp [Op.eqFields, part, Sem.run_bind, Tryd.isAgg3, he 9998, h1]
theorem feet_differ {l m : List DFoot} {k : Nat} {x y : DFoot} (h1 : l[k]? = some x) (h2 : m[k]? = some y) (h : ¬ x = y) : ¬ l = m := fun e => by
  subst e
  rw [h1] at h2
  exact h (Option.some.inj h2)
theorem foot_eq {x y : DFoot} : x = y ↔ x.From = y.From ∧ x.Size = y.Size ∧ x.Head = y.Head := by
  obtain ⟨a, b, c⟩ := x
  obtain ⟨a', b', c'⟩ := y
  simp
theorem footing_eq {x y : DFooting} : x = y ↔ x.Syllables = y.Syllables ∧ x.Main = y.Main ∧ x.Feet = y.Feet := by
  obtain ⟨a, b, c⟩ := x
  obtain ⟨a', b', c'⟩ := y
  simp only [DFooting.mk.injEq]
  constructor
  · rintro ⟨h1, h2, h3⟩; exact ⟨h1, h3, h2⟩
  · rintro ⟨h1, h2, h3⟩; exact ⟨h1, h3, h2⟩
def feq (x y : DFooting) : Bool := decide (x = y)
set_option maxHeartbeats 4000000 in
theorem specEqF_any (x y : DFooting) (v1 u1 : Value) (F G : Addr → Prop) (w : World) (hv : RowRd rFoot false w v1 x.Feet F) (hu : RowRd rFoot false w u1 y.Feet G) :
    Calls Tryd.prog 9 #[.agg #[.int .i64 x.Syllables, v1, .int .i64 x.Main], .agg #[.int .i64 y.Syllables, u1, .int .i64 y.Main]] w fun e w' => e = .returned (.bool (feq x y)) ∧ Below w.heap.size w w' := by
  have hmx := hv.max
  have hmy := hu.max
  obtain ⟨A, cap, rfl⟩ := hv.form
  obtain ⟨A2, cap2, rfl⟩ := hu.form
  have HV := Lib.hid hv
  have HU := Lib.hid hu
  have HX : Hid (∀ k, k < x.Feet.length → ∃ z, x.Feet[k]? = some z) := fun k hk => ⟨_, List.getElem?_eq_getElem hk⟩
  have HY : Hid (∀ k, k < y.Feet.length → ∃ z, y.Feet[k]? = some z) := fun k hk => ⟨_, List.getElem?_eq_getElem hk⟩
  have HQ : Hid (feq x y = decide (x.Syllables = y.Syllables ∧ x.Main = y.Main ∧ x.Feet = y.Feet)) := by unfold Hid feq; exact decide_eq_decide.2 footing_eq
  have HD : Hid (∀ k a b, x.Feet[k]? = some a → y.Feet[k]? = some b → ¬ a = b → ¬ x.Feet = y.Feet) := fun k a b h1 h2 h => feet_differ h1 h2 h
  have HL : Hid (¬ x.Feet.length = y.Feet.length → ¬ x.Feet = y.Feet) := fun h e => h (by rw [e])
  have HALL : Hid (x.Feet.length = y.Feet.length → (∀ k, k < x.Feet.length → x.Feet[k]? = y.Feet[k]?) → x.Feet = y.Feet) := fun hl h => by
    apply List.ext_getElem?
    intro k
    by_cases hk : k < x.Feet.length
    · exact h k hk
    · rw [List.getElem?_eq_none (by omega), List.getElem?_eq_none (by omega)]
  clear hv hu
  generalize feq x y = r at *
  generalize x.Syllables = S at *
  generalize y.Syllables = S2 at *
  generalize x.Main = M at *
  generalize y.Main = M2 at *
  generalize x.Feet = l at *
  generalize y.Feet = m at *
  generalize hln : l.length = n at *
  generalize hlm : m.length = n2 at *
  have HLN := Lib.hid hln
  have HLM := Lib.hid hlm
  clear hln hlm
  go_enter Tryd.func9, Tryd.ntmps9
  by_cases hS : S = S2
  case neg =>
    have HR : Hid (r = false) := by unfold Hid; rw [HQ.out]; exact decide_eq_false (fun h => hS h.1)
    go_wp2
    go_ret
    exact ⟨ret_bool HR.out.symm, ((Below.refl _ _).alloc (Nat.le_refl _) _).alloc (by simp) _⟩
  by_cases hM : M = M2
  case neg =>
    have HR : Hid (r = false) := by unfold Hid; rw [HQ.out]; exact decide_eq_false (fun h => hM h.2.1)
    go_wp2
    go_ret
    exact ⟨ret_bool HR.out.symm, ((Below.refl _ _).alloc (Nat.le_refl _) _).alloc (by simp) _⟩
  by_cases hN : n = n2
  case neg =>
    have HR : Hid (r = false) := by unfold Hid; rw [HQ.out]; exact decide_eq_false (fun h => HL.out hN h.2.2)
    have hN2 : ¬ (n : Int) = (n2 : Int) := by omega
    go_wp2
    go_ret
    exact ⟨ret_bool HR.out.symm, ((Below.refl _ _).alloc (Nat.le_refl _) _).alloc (by simp) _⟩
  subst hS hM hN
  have hg := eqGuardF
  have hef := equalF
  go_wp2
  go_loopw [5] (fun i wr => ∃ (k : Nat), k ≤ n ∧ i = .int .i64 k ∧ Hid (∀ j, j < k → l[j]? = m[j]?) ∧ Below w.heap.size w wr ∧ InC wr w.heap.size #[.int .i64 S, .slice A n cap, .int .i64 M] 31 ∧ InC wr (w.heap.size + 1) #[.int .i64 S, .slice A2 n cap2, .int .i64 M] 31) (fun i _ => n - (intOf i).toNat)
  case atStart => exact ⟨0, by omega, rfl, fun j hj => by omega, ((Below.refl _ _).alloc (Nat.le_refl _) _).alloc (by simp) _, box1 _ _ _, box2 _ _ _⟩
  case round =>
    obtain ⟨k, hk, rfl, hall, hbe, hi1, hi2⟩ := hrel
    have b1 := hi1.cell 1 rfl
    have b2 := hi2.cell 1 rfl
    have HBE := Lib.hid hbe
    have HI1 := Lib.hid hi1
    have HI2 := Lib.hid hi2
    clear hbe hi1 hi2
    by_cases hkl : k < n
    · obtain ⟨a, ha⟩ := HX.out k hkl
      obtain ⟨b, hb⟩ := HY.out k hkl
      obtain ⟨g, off, xs, Fk, rfl, _, hra, _, hca⟩ := (HV.out.kept HBE.out).get ha
      obtain ⟨g2, off2, ys, Gk, rfl, _, hrb, _, hcb⟩ := (HU.out.kept HBE.out).get hb
      obtain ⟨rfl, _, _, _⟩ := rFoot_rd hra
      obtain ⟨rfl, _, _, _⟩ := rFoot_rd hrb
      rw [rFoot_size] at hca hcb
      have c0 := hca 0 _ rfl
      have c1 := hca 1 _ rfl
      have c2 := hca 2 _ rfl
      have d0 := hcb 0 _ rfl
      have d1 := hcb 1 _ rfl
      have d2 := hcb 2 _ rfl
      simp only [Nat.add_zero] at c0 d0
      have HDK := Lib.hid (HD.out k a b ha hb)
      have HAB : Hid (a = b ↔ a.From = b.From ∧ a.Size = b.Size ∧ a.Head = b.Head) := foot_eq
      have HEQ : Hid (a = b → ∀ j, j < k + 1 → l[j]? = m[j]?) := fun e j hj => by
        by_cases hjk : j = k
        · subst hjk; rw [ha, hb, e]
        · exact hall.out j (by omega)
      clear hca hcb hra hrb ha hb
      by_cases hab : a.From = b.From ∧ a.Size = b.Size ∧ a.Head = b.Head
      · have HE2 := Lib.hid (HEQ.out (HAB.out.2 hab))
        generalize a.From = a0 at *
        generalize a.Size = a1 at *
        generalize a.Head = a2 at *
        generalize b.From = b0 at *
        generalize b.Size = b1' at *
        generalize b.Head = b2' at *
        obtain ⟨rfl, rfl, rfl⟩ := hab
        go_wp2
        go_quiet (fail)
        go_wp2
        go_roundw
        case rel => exact ⟨k + 1, by omega, by go_num, HE2, ⟨HBE.out.os, HBE.out.tape, HBE.out.output, HBE.out.size, HBE.out.block⟩, HI1.out, HI2.out⟩
        case measure => simp [intOf]; omega
      · have HR : Hid (r = false) := by unfold Hid; rw [HQ.out]; exact decide_eq_false (fun h => HDK.out (fun e => hab (HAB.out.1 e)) h.2.2)
        generalize a.From = a0 at *
        generalize a.Size = a1 at *
        generalize a.Head = a2 at *
        generalize b.From = b0 at *
        generalize b.Size = b1' at *
        generalize b.Head = b2' at *
        go_wp2
        go_quiet (fail)
        go_wp2
        go_ret
        exact ⟨ret_bool HR.out.symm, ⟨HBE.out.os, HBE.out.tape, HBE.out.output, HBE.out.size, HBE.out.block⟩⟩
    · obtain rfl : k = n := by omega
      have HR : Hid (r = true) := by unfold Hid; rw [HQ.out]; exact decide_eq_true ⟨by trivial, by trivial, HALL.out (by trivial) (fun j hj => hall.out j hj)⟩
      go_wp2
      go_ret
      exact ⟨ret_bool HR.out.symm, HBE.out⟩
end Go.Proofs.YtifmcbhgoncgjaaDoor
