/- EqualCandidates of both: what they answer. -/
import Derived.Test.YtlekcnddejnejaaCd
import Derived.Test.YtlekcnddejnejaaRows
import Derived.Test.YtlekcnddejnejaaRet
import Derived.WalkKit
import Derived.BigRegion
import Derived.BigQuiet
import Derived.Laws.StructEq
namespace Go.Proofs.Ytlekcnddejnejaa
open Go.RowKit M
set_option linter.unusedVariables false
set_option linter.unusedSimpArgs false

theorem eqGuardL : Try.prog.eqGuardType Try.prog.depth 42 = false := by kernel_rfl
theorem equalL (a b a' b' : Int) (w : World) : (Op.equalIn 10000 42 (.agg #[.int .u8 a, .int .u8 b]) (.agg #[.int .u8 a', .int .u8 b'])).run Try.prog w = .ok (decide (a = a' ∧ b = b')) w := by
  rw [run_equalIn_struct w 9999 42 _ _ (by kernel_rfl) (by kernel_rfl)]
  unfold Program.fieldsOf
  rw [Try.underlying42]
  have he : ∀ (d : Nat) (a b : Int) (w : World), (Op.equalIn (d + 1) 5 (.int .u8 a) (.int .u8 b)).run Try.prog w = .ok (decide (a = b)) w := fun d a b w => by
    rw [run_equalIn_int w d 5 .u8 .u8 a b Try.underlying5]
    congr 1
  by_cases h1 : a = a'
  · by_cases h2 : b = b'
    · simp [Op.eqFields, part, Sem.run_bind, Try.isAgg5, he 9998, h1, h2]
    · simp [Op.eqFields, part, Sem.run_bind, Try.isAgg5, he 9998, h1, h2]
  · simp [Op.eqFields, part, Sem.run_bind, Try.isAgg5, he 9998, h1]
theorem links_differ {l m : List DLink} {k : Nat} {x y : DLink} (h1 : l[k]? = some x) (h2 : m[k]? = some y) (h : ¬ x = y) : ¬ l = m := fun e => by
  subst e
  rw [h1] at h2
  exact h (Option.some.inj h2)
theorem link_eq {x y : DLink} : x = y ↔ (x.In.toNat : Int) = (y.In.toNat : Int) ∧ (x.Out.toNat : Int) = (y.Out.toNat : Int) := by
  obtain ⟨a, b⟩ := x
  obtain ⟨a', b'⟩ := y
  simp only [DLink.mk.injEq, u8_eq]
set_option maxHeartbeats 4000000 in
theorem implEqL_any (l m : List DLink) (v1 u1 : Value) (F G : Addr → Prop) (w : World) (hv : RowRd rLink false w v1 l F) (hu : RowRd rLink false w u1 m G) :
    Calls Try.prog 49 #[v1, u1] w fun e w' => e = .returned (.bool (decide (l = m))) ∧ Below w.heap.size w w' := by
  have hmx := hv.max
  have hmy := hu.max
  obtain ⟨A, cap, rfl⟩ := hv.form
  obtain ⟨A2, cap2, rfl⟩ := hu.form
  have HV := Lib.hid hv
  have HU := Lib.hid hu
  have HX : Hid (∀ k, k < l.length → ∃ z, l[k]? = some z) := fun k hk => ⟨_, List.getElem?_eq_getElem hk⟩
  have HY : Hid (∀ k, k < m.length → ∃ z, m[k]? = some z) := fun k hk => ⟨_, List.getElem?_eq_getElem hk⟩
  have HQ : Hid ((l = m → decide (l = m) = true) ∧ (¬ l = m → decide (l = m) = false)) := ⟨decide_eq_true, decide_eq_false⟩
  have HD : Hid (∀ k a b, l[k]? = some a → m[k]? = some b → ¬ a = b → ¬ l = m) := fun k a b h1 h2 h => links_differ h1 h2 h
  have HL : Hid (¬ l.length = m.length → ¬ l = m) := fun h e => h (by rw [e])
  have HALL : Hid (l.length = m.length → (∀ k, k < l.length → l[k]? = m[k]?) → l = m) := fun hl h => by
    apply List.ext_getElem?
    intro k
    by_cases hk : k < l.length
    · exact h k hk
    · rw [List.getElem?_eq_none (by omega), List.getElem?_eq_none (by omega)]
  clear hv hu
  generalize decide (l = m) = r at *
  generalize hln : l.length = n at *
  generalize hlm : m.length = n2 at *
  have HLN := Lib.hid hln
  have HLM := Lib.hid hlm
  clear hln hlm
  go_enter Try.func49, Try.ntmps49
  by_cases hN : n = n2
  case neg =>
    have HR : Hid (r = false) := HQ.out.2 (HL.out hN)
    have hN2 : ¬ (n : Int) = (n2 : Int) := by omega
    go_wp2
    go_ret
    exact ⟨ret_bool HR.out.symm, Below.refl _ _⟩
  subst hN
  have hg := eqGuardL
  have hef := equalL
  go_wp2
  go_loopw [13] (fun i wr => ∃ (k : Nat), k ≤ n ∧ i = .int .i64 k ∧ Hid (∀ j, j < k → l[j]? = m[j]?) ∧ Below w.heap.size w wr) (fun i _ => n - (intOf i).toNat)
  case atStart => exact ⟨0, by omega, rfl, fun j hj => by omega, Below.refl _ _⟩
  case round =>
    obtain ⟨k, hk, rfl, hall, hbe⟩ := hrel
    have HBE := Lib.hid hbe
    clear hbe
    by_cases hkl : k < n
    · obtain ⟨a, ha⟩ := HX.out k hkl
      obtain ⟨b, hb⟩ := HY.out k hkl
      obtain ⟨g, off, xs, Fk, rfl, _, hra, _, hca⟩ := (HV.out.kept HBE.out).get ha
      obtain ⟨g2, off2, ys, Gk, rfl, _, hrb, _, hcb⟩ := (HU.out.kept HBE.out).get hb
      obtain rfl := rLink_rd hra
      obtain rfl := rLink_rd hrb
      rw [rLink_size] at hca hcb
      have c0 := hca 0 _ rfl
      have c1 := hca 1 _ rfl
      have d0 := hcb 0 _ rfl
      have d1 := hcb 1 _ rfl
      simp only [Nat.add_zero] at c0 d0
      have HDK := Lib.hid (HD.out k a b ha hb)
      have HAB : Hid (a = b ↔ (a.In.toNat : Int) = (b.In.toNat : Int) ∧ (a.Out.toNat : Int) = (b.Out.toNat : Int)) := link_eq
      have HEQ : Hid (a = b → ∀ j, j < k + 1 → l[j]? = m[j]?) := fun e j hj => by
        by_cases hjk : j = k
        · subst hjk; rw [ha, hb, e]
        · exact hall.out j (by omega)
      clear hca hcb hra hrb ha hb
      by_cases hab : (a.In.toNat : Int) = (b.In.toNat : Int) ∧ (a.Out.toNat : Int) = (b.Out.toNat : Int)
      · have HE2 := Lib.hid (HEQ.out (HAB.out.2 hab))
        generalize (a.In.toNat : Int) = a0 at *
        generalize (a.Out.toNat : Int) = a1 at *
        generalize (b.In.toNat : Int) = b0 at *
        generalize (b.Out.toNat : Int) = b1' at *
        obtain ⟨rfl, rfl⟩ := hab
        go_wp2
        go_quiet (fail)
        go_wp2
        go_roundw
        case rel => exact ⟨k + 1, by omega, by go_num, HE2, ⟨HBE.out.os, HBE.out.tape, HBE.out.output, HBE.out.size, HBE.out.block⟩⟩
        case measure => simp [intOf]; omega
      · have HR : Hid (r = false) := by exact HQ.out.2 (fun h => HDK.out (fun e => hab (HAB.out.1 e)) h)
        generalize (a.In.toNat : Int) = a0 at *
        generalize (a.Out.toNat : Int) = a1 at *
        generalize (b.In.toNat : Int) = b0 at *
        generalize (b.Out.toNat : Int) = b1' at *
        go_wp2
        go_quiet (fail)
        go_wp2
        go_ret
        exact ⟨ret_bool HR.out.symm, ⟨HBE.out.os, HBE.out.tape, HBE.out.output, HBE.out.size, HBE.out.block⟩⟩
    · obtain rfl : k = n := by omega
      have HR : Hid (r = true) := by exact HQ.out.1 (HALL.out (by trivial) (fun j hj => hall.out j hj))
      go_wp2
      go_ret
      exact ⟨ret_bool HR.out.symm, HBE.out⟩
set_option maxHeartbeats 4000000 in
theorem specEqL_any (l m : List DLink) (v1 u1 : Value) (F G : Addr → Prop) (w : World) (hv : RowRd rLink false w v1 l F) (hu : RowRd rLink false w u1 m G) :
    Calls Try.prog 30 #[.agg #[v1], .agg #[u1]] w fun e w' => e = .returned (.bool (decide (l = m))) ∧ Below w.heap.size w w' := by
  have hmx := hv.max
  have hmy := hu.max
  obtain ⟨A, cap, rfl⟩ := hv.form
  obtain ⟨A2, cap2, rfl⟩ := hu.form
  have HV := Lib.hid hv
  have HU := Lib.hid hu
  have HX : Hid (∀ k, k < l.length → ∃ z, l[k]? = some z) := fun k hk => ⟨_, List.getElem?_eq_getElem hk⟩
  have HY : Hid (∀ k, k < m.length → ∃ z, m[k]? = some z) := fun k hk => ⟨_, List.getElem?_eq_getElem hk⟩
  have HQ : Hid ((l = m → decide (l = m) = true) ∧ (¬ l = m → decide (l = m) = false)) := ⟨decide_eq_true, decide_eq_false⟩
  have HD : Hid (∀ k a b, l[k]? = some a → m[k]? = some b → ¬ a = b → ¬ l = m) := fun k a b h1 h2 h => links_differ h1 h2 h
  have HL : Hid (¬ l.length = m.length → ¬ l = m) := fun h e => h (by rw [e])
  have HALL : Hid (l.length = m.length → (∀ k, k < l.length → l[k]? = m[k]?) → l = m) := fun hl h => by
    apply List.ext_getElem?
    intro k
    by_cases hk : k < l.length
    · exact h k hk
    · rw [List.getElem?_eq_none (by omega), List.getElem?_eq_none (by omega)]
  clear hv hu
  generalize decide (l = m) = r at *
  generalize hln : l.length = n at *
  generalize hlm : m.length = n2 at *
  have HLN := Lib.hid hln
  have HLM := Lib.hid hlm
  clear hln hlm
  go_enter Try.func30, Try.ntmps30
  by_cases hN : n = n2
  case neg =>
    have HR : Hid (r = false) := HQ.out.2 (HL.out hN)
    have hN2 : ¬ (n : Int) = (n2 : Int) := by omega
    go_wp2
    go_ret
    exact ⟨ret_bool HR.out.symm, ((Below.refl _ _).alloc (Nat.le_refl _) _).alloc (by simp) _⟩
  subst hN
  have hg := eqGuardL
  have hef := equalL
  go_wp2
  go_loopw [5] (fun i wr => ∃ (k : Nat), k ≤ n ∧ i = .int .i64 k ∧ Hid (∀ j, j < k → l[j]? = m[j]?) ∧ Below w.heap.size w wr ∧ InC wr w.heap.size #[.slice A n cap] 29 ∧ InC wr (w.heap.size + 1) #[.slice A2 n cap2] 29) (fun i _ => n - (intOf i).toNat)
  case atStart => exact ⟨0, by omega, rfl, fun j hj => by omega, ((Below.refl _ _).alloc (Nat.le_refl _) _).alloc (by simp) _, box1 _ _ _, box2 _ _ _⟩
  case round =>
    obtain ⟨k, hk, rfl, hall, hbe, hi1, hi2⟩ := hrel
    have b1 := hi1.cell 0 rfl
    have b2 := hi2.cell 0 rfl
    have HI1 := Lib.hid hi1
    have HI2 := Lib.hid hi2
    clear hi1 hi2
    have HBE := Lib.hid hbe
    clear hbe
    by_cases hkl : k < n
    · obtain ⟨a, ha⟩ := HX.out k hkl
      obtain ⟨b, hb⟩ := HY.out k hkl
      obtain ⟨g, off, xs, Fk, rfl, _, hra, _, hca⟩ := (HV.out.kept HBE.out).get ha
      obtain ⟨g2, off2, ys, Gk, rfl, _, hrb, _, hcb⟩ := (HU.out.kept HBE.out).get hb
      obtain rfl := rLink_rd hra
      obtain rfl := rLink_rd hrb
      rw [rLink_size] at hca hcb
      have c0 := hca 0 _ rfl
      have c1 := hca 1 _ rfl
      have d0 := hcb 0 _ rfl
      have d1 := hcb 1 _ rfl
      simp only [Nat.add_zero] at c0 d0
      have HDK := Lib.hid (HD.out k a b ha hb)
      have HAB : Hid (a = b ↔ (a.In.toNat : Int) = (b.In.toNat : Int) ∧ (a.Out.toNat : Int) = (b.Out.toNat : Int)) := link_eq
      have HEQ : Hid (a = b → ∀ j, j < k + 1 → l[j]? = m[j]?) := fun e j hj => by
        by_cases hjk : j = k
        · subst hjk; rw [ha, hb, e]
        · exact hall.out j (by omega)
      clear hca hcb hra hrb ha hb
      by_cases hab : (a.In.toNat : Int) = (b.In.toNat : Int) ∧ (a.Out.toNat : Int) = (b.Out.toNat : Int)
      · have HE2 := Lib.hid (HEQ.out (HAB.out.2 hab))
        generalize (a.In.toNat : Int) = a0 at *
        generalize (a.Out.toNat : Int) = a1 at *
        generalize (b.In.toNat : Int) = b0 at *
        generalize (b.Out.toNat : Int) = b1' at *
        obtain ⟨rfl, rfl⟩ := hab
        go_wp2
        go_quiet (fail)
        go_wp2
        go_roundw
        case rel => exact ⟨k + 1, by omega, by go_num, HE2, ⟨HBE.out.os, HBE.out.tape, HBE.out.output, HBE.out.size, HBE.out.block⟩, HI1.out, HI2.out⟩
        case measure => simp [intOf]; omega
      · have HR : Hid (r = false) := by exact HQ.out.2 (fun h => HDK.out (fun e => hab (HAB.out.1 e)) h)
        generalize (a.In.toNat : Int) = a0 at *
        generalize (a.Out.toNat : Int) = a1 at *
        generalize (b.In.toNat : Int) = b0 at *
        generalize (b.Out.toNat : Int) = b1' at *
        go_wp2
        go_quiet (fail)
        go_wp2
        go_ret
        exact ⟨ret_bool HR.out.symm, ⟨HBE.out.os, HBE.out.tape, HBE.out.output, HBE.out.size, HBE.out.block⟩⟩
    · obtain rfl : k = n := by omega
      have HR : Hid (r = true) := by exact HQ.out.1 (HALL.out (by trivial) (fun j hj => hall.out j hj))
      go_wp2
      go_ret
      exact ⟨ret_bool HR.out.symm, HBE.out⟩
theorem specEqC_any (x y : DCandidate) (v1 u1 : Value) (F G : Addr → Prop) (w : World) (hv : RowRd rLink false w v1 x.Links F) (hu : RowRd rLink false w u1 y.Links G) :
    Calls Try.prog 30 #[.agg #[v1], .agg #[u1]] w fun e w' => e = .returned (.bool (decide (x.Links = y.Links))) ∧ Below w.heap.size w w' := specEqL_any x.Links y.Links v1 u1 F G w hv hu
theorem implEqC_any (x y : DCandidate) (v1 u1 : Value) (F G : Addr → Prop) (w : World) (hv : RowRd rLink false w v1 x.Links F) (hu : RowRd rLink false w u1 y.Links G) :
    Calls Try.prog 31 #[.agg #[v1], .agg #[u1]] w fun e w' => e = .returned (.bool (decide (x.Links = y.Links))) ∧ Below w.heap.size w w' := by
  have HE : Hid (∀ W, Below w.heap.size w W → Calls Try.prog 49 #[v1, u1] W fun e w' => e = .returned (.bool (decide (x.Links = y.Links))) ∧ Below W.heap.size W w') := fun W hW => implEqL_any _ _ v1 u1 F G W (hv.kept hW) (hu.kept hW)
  obtain ⟨A, cap, rfl⟩ := hv.form
  obtain ⟨A2, cap2, rfl⟩ := hu.form
  clear hv hu
  have HB2 : Hid (∀ o p, Below w.heap.size w ((w.alloc o).alloc p)) := fun o p => ((Below.refl _ _).alloc (Nat.le_refl _) _).alloc (by simp) _
  generalize decide (x.Links = y.Links) = r at *
  go_enter Try.func31, Try.ntmps31
  go_wp2_with fail
  refine (HE.out _ (HB2.out _ _)).mono ?_
  rintro e w1 ⟨rfl, hb1⟩
  have HB1 : Hid (Below w.heap.size w w1) := (HB2.out _ _).trans (hb1.mono (by simp; omega))
  clear hb1
  go_wp2
  go_ret
  exact ⟨rfl, HB1.out⟩
end Go.Proofs.Ytlekcnddejnejaa
