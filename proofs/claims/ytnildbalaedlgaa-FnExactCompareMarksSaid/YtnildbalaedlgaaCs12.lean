/- Rankings: the model's CompareMarks: what it answers. -/
import Derived.Test.YtnildbalaedlgaaSk12
namespace Go.Proofs.Ytnildbalaedlgaa
set_option maxRecDepth 100000
open Go.RowKit Go.Sort
set_option linter.unusedVariables false
set_option linter.unusedSimpArgs false

theorem diffAt_of {a b : List Int} {j : Nat} {x y : Int} (ha : a[j]? = some x) (hb : b[j]? = some y) : diffAt a b (j : Int) = if x < y then -1 else if y < x then 1 else 0 := by
  unfold diffAt
  rw [Int.toNat_natCast, List.getD_eq_getElem?_getD, List.getD_eq_getElem?_getD, ha, hb]
  rfl
theorem drop_at {l : List Int} {i : Nat} {k : Int} (h : l[i]? = some k) : l.drop i = k :: l.drop (i + 1) := by
  obtain ⟨hi, he⟩ := List.getElem?_eq_some_iff.1 h
  rw [List.drop_eq_getElem_cons hi, he]
theorem cmpL_at {a b r : List Int} {i j : Nat} (h : r[i]? = some (j : Int)) {x y : Int} (ha : a[j]? = some x) (hb : b[j]? = some y) : cmpL a b (r.drop i) = if x < y then -1 else if y < x then 1 else cmpL a b (r.drop (i + 1)) := by
  rw [drop_at h, cmpL_cons, diffAt_of ha hb]
  by_cases h1 : x < y
  · rw [if_pos h1, if_pos h1]; rfl
  · rw [if_neg h1, if_neg h1]
    by_cases h2 : y < x
    · rw [if_pos h2, if_pos h2]; rfl
    · rw [if_neg h2, if_neg h2]; rfl
/-- The places of a ranking lie within both lists. -/
theorem rank_place {a r : List Int} (h : ∀ (i : Nat) (k : Int), r[i]? = some k → 0 ≤ k ∧ k < (a.length : Int)) {i : Nat} (hi : i < r.length) : ∃ j x, r[i]? = some ((j : Nat) : Int) ∧ j < a.length ∧ a[j]? = some x := by
  have hk := List.getElem?_eq_getElem hi
  obtain ⟨h1, h2⟩ := h i _ hk
  refine ⟨(r[i]).toNat, _, by rw [hk, Int.toNat_of_nonneg h1], by omega, List.getElem?_eq_getElem (by omega)⟩
set_option maxHeartbeats 16000000 in
theorem specCm_any (a b r : List Int) (va vb vr : Value) (Fa Fb Fr : Addr → Prop) (w : World) (hva : RowRd Rep.int false w va a Fa) (hvb : RowRd Rep.int false w vb b Fb) (hvr : RowRd Rep.int false w vr r Fr) :
    Calls Try.prog 13 #[va, vb, vr] w fun e w' => e = .returned (.int .i64 (cmpV a b r)) ∧ Below w.heap.size w w' := by
  have hma := hva.max
  have hmb := hvb.max
  have hmr := hvr.max
  obtain ⟨A1, k1, rfl⟩ := hva.form
  obtain ⟨A2, k2, rfl⟩ := hvb.form
  obtain ⟨A3, k3, rfl⟩ := hvr.form
  have HA := Lib.hid hva
  have HB := Lib.hid hvb
  have HR := Lib.hid hvr
  have HRK := Lib.hid (specRk_any r (a.length : Int) _ Fr w (by unfold I64; omega) hvr)
  clear hva hvb hvr
  have HV : Hid (cmpV a b r = if rkB r a.length && decide (a.length = b.length) then cmpL a b r else 0) := rfl
  have HKA : Hid (rkB r a.length = true → ∀ (i : Nat) (k : Int), r[i]? = some k → 0 ≤ k ∧ k < (a.length : Int)) := fun h i k hk => rk_at h hk
  generalize cmpV a b r = z at *
  generalize hrb : rkB r (a.length : Int) = rb at *
  clear hrb
  go_enter Try.func13, Try.ntmps13
  go_wp2_with fail
  refine HRK.out.mono ?_
  rintro e w1 ⟨rfl, hb1⟩
  have HB1 := Lib.hid hb1
  clear hb1 HRK
  cases rb
  case false =>
    have HZ : Hid (z = 0) := HV.out
    go_wp2
    go_ret
    exact ⟨by rw [HZ.out]; rfl, HB1.out⟩
  by_cases hl : a.length = b.length
  case neg =>
    have HZ : Hid (z = 0) := by unfold Hid; rw [HV.out, decide_eq_false hl]; rfl
    have hl2 : ((a.length : Int) != (b.length : Int)) = true := by simp; omega
    clear HV hl
    go_wp2
    go_ret
    exact ⟨by rw [HZ.out]; rfl, HB1.out⟩
  have HZ : Hid (z = cmpL a b r) := by unfold Hid; rw [HV.out, decide_eq_true hl]; rfl
  have hl2 : ((a.length : Int) != (b.length : Int)) = false := by simp; omega
  have HPL : Hid (∀ i, i < r.length → ∃ j x y, r[i]? = some ((j : Nat) : Int) ∧ j < a.length ∧ j < b.length ∧ a[j]? = some x ∧ b[j]? = some y) := fun i hi => by
    obtain ⟨j, x, h1, h2, h3⟩ := rank_place (HKA.out rfl) hi
    exact ⟨j, x, _, h1, h2, by omega, h3, List.getElem?_eq_getElem (by omega)⟩
  have HST : Hid (∀ (i j : Nat) (x y : Int), r[i]? = some (j : Int) → a[j]? = some x → b[j]? = some y → cmpL a b (r.drop i) = if x < y then -1 else if y < x then 1 else cmpL a b (r.drop (i + 1))) := fun i j x y h1 h2 h3 => cmpL_at h1 h2 h3
  have H0 : Hid (cmpL a b (r.drop 0) = z) := HZ.out.symm
  have HE : Hid (cmpL a b (r.drop r.length) = 0) := by unfold Hid; rw [List.drop_length]; rfl
  clear HV HKA hl
  generalize hln : r.length = n at *
  generalize hla : a.length = na at *
  generalize hlb : b.length = nb at *
  go_wp2
  go_loopw [7] (fun i wr => ∃ (k : Nat), k ≤ n ∧ i = .int .i64 k ∧ Hid (cmpL a b (r.drop k) = z) ∧ Below w.heap.size w wr) (fun i _ => n - (intOf i).toNat)
  case atStart => exact ⟨0, by omega, rfl, H0.out, HB1.out⟩
  case round =>
    obtain ⟨k, hk, rfl, hcm, hbe⟩ := hrel
    obtain ⟨w2, rfl⟩ : ∃ w2 : World, w2 = wr := ⟨_, rfl⟩
    have HBE := Lib.hid hbe
    clear hbe
    by_cases hkl : k < n
    · obtain ⟨j, x, y, hj, hja, hjb, hx, hy⟩ := HPL.out k hkl
      have HS : Hid (z = if x < y then -1 else if y < x then 1 else cmpL a b (r.drop (k + 1))) := hcm.out.symm.trans (HST.out k j x y hj hx hy)
      have hkr : (k : Int) < (n : Int) := by omega
      have hj1 : (j : Int) < (na : Int) := by omega
      have hj2 : (j : Int) < (nb : Int) := by omega
      obtain ⟨g1, o1, xs1, F1, rfl, _, ha1, _, hc1⟩ := (HA.out.kept HBE.out).get hx
      obtain ⟨g2, o2, xs2, F2, rfl, _, ha2, _, hc2⟩ := (HB.out.kept HBE.out).get hy
      obtain ⟨g3, o3, xs3, F3, rfl, _, ha3, _, hc3⟩ := (HR.out.kept HBE.out).get hj
      obtain ⟨rfl, hxi⟩ := id ha1
      obtain ⟨rfl, hyi⟩ := id ha2
      obtain ⟨rfl, hji⟩ := id ha3
      have c1 := hc1 0 _ rfl
      have c2 := hc2 0 _ rfl
      have c3 := hc3 0 _ rfl
      simp only [show Rep.int.size = 1 from rfl, Nat.mul_one, Nat.add_zero] at c1 c2 c3
      have hr1 := fun d os => cell_regrown c1 d os
      have hr2 := fun d os => cell_regrown c2 d os
      have hr3 := fun d os => cell_regrown c3 d os
      clear hc1 hc2 hc3 ha1 ha2 ha3 hx hy hj
      by_cases h1 : x < y
      · have HF : Hid (z = -1) := by unfold Hid; rw [HS.out, if_pos h1]
        have e1 : decide (x < y) = true := decide_eq_true h1
        clear HS HST HPL hcm h1
        go_wp2
        refine wp_region_quiet_below (by kernel_rfl) (by kernel_rfl) ?_
        repeat (first | go_big_quiet_skip | quiet_step (fail))
        refine wpQuiet_nil ?_
        intro _ hw'
        obtain ⟨⟨dq, osq⟩, hw''⟩ := hw'
        subst hw''
        have HB5 := Lib.hid (HBE.out.trans ((below_regrown w2 dq osq).mono HBE.out.size))
        go_wp2
        go_ret
        exact ⟨by rw [HF.out]; rfl, HB5.out⟩
      have e1 : decide (x < y) = false := decide_eq_false h1
      go_wp2
      refine wp_region_quiet_below (by kernel_rfl) (by kernel_rfl) ?_
      repeat (first | go_big_quiet_skip | quiet_step (fail))
      refine wpQuiet_nil ?_
      intro _ hw'
      obtain ⟨⟨dq, osq⟩, hw''⟩ := hw'
      subst hw''
      have HB5 := Lib.hid (HBE.out.trans ((below_regrown w2 dq osq).mono HBE.out.size))
      replace c1 := hr1 dq osq
      replace c2 := hr2 dq osq
      replace c3 := hr3 dq osq
      clear hr1 hr2 hr3
      generalize grow (redrawn w2 dq) osq = w3 at *
      have hr1 := fun d os => cell_regrown c1 d os
      have hr2 := fun d os => cell_regrown c2 d os
      have hr3 := fun d os => cell_regrown c3 d os
      by_cases h2 : y < x
      · have HF : Hid (z = 1) := by unfold Hid; rw [HS.out, if_neg (by omega), if_pos h2]
        have e2 : decide (y < x) = true := decide_eq_true h2
        clear HS HST HPL hcm h1 h2
        go_wp2
        refine wp_region_quiet_below (by kernel_rfl) (by kernel_rfl) ?_
        repeat (first | go_big_quiet_skip | quiet_step (fail))
        refine wpQuiet_nil ?_
        intro _ hw'
        obtain ⟨⟨dq, osq⟩, hw''⟩ := hw'
        subst hw''
        have HB6 := Lib.hid (HB5.out.trans ((below_regrown w3 dq osq).mono HB5.out.size))
        go_wp2
        go_ret
        exact ⟨by rw [HF.out]; rfl, HB6.out⟩
      have e2 : decide (y < x) = false := decide_eq_false h2
      have HF : Hid (cmpL a b (r.drop (k + 1)) = z) := by unfold Hid; rw [HS.out, if_neg (by omega), if_neg (by omega)]
      clear HS HST HPL hcm h1 h2
      go_wp2
      refine wp_region_quiet_below (by kernel_rfl) (by kernel_rfl) ?_
      repeat (first | go_big_quiet_skip | quiet_step (fail))
      refine wpQuiet_nil ?_
      intro _ hw'
      obtain ⟨⟨dq, osq⟩, hw''⟩ := hw'
      subst hw''
      have HB6 := Lib.hid (HB5.out.trans ((below_regrown w3 dq osq).mono HB5.out.size))
      go_wp2
      go_roundw
      case rel => exact ⟨k + 1, by omega, by go_num, HF.out, HB6.out⟩
      case measure => simp [intOf]; omega
    · obtain rfl : k = n := by omega
      have HF : Hid (z = 0) := hcm.out.symm.trans HE.out
      clear hcm
      go_wp2
      go_ret
      exact ⟨by rw [HF.out]; rfl, HBE.out⟩
end Go.Proofs.Ytnildbalaedlgaa
