/- The model's counts of links: what they answer. -/
import Derived.Test.YtfcmhbbeohhjmaaM9
import Derived.Test.YtfcmhbbeohhjmaaMc2
import Derived.BigRegion
import Derived.BigQuiet
namespace Go.Proofs.Ytfcmhbbeohhjmaa
set_option maxRecDepth 100000
open Go.RowKit M
set_option linter.unusedVariables false
set_option linter.unusedSimpArgs false
set_option maxRecDepth 100000

set_option maxHeartbeats 4000000 in
theorem specDeleted_any (x : DCandidate) (v : Value) (F : Addr → Prop) (w : World) (hl : x.Links.length ≤ 1048576) (hv : RowRd rLink false w v x.Links F) :
    Calls Try.prog 10 #[.agg #[v]] w fun e w' => e = .returned (.int .i64 (cntC delK x.Links : Nat)) ∧ Below w.heap.size w w' := by
  obtain ⟨A, cap, rfl⟩ := hv.form
  have HIS : Hid (∀ W, Below w.heap.size w W → Calls Try.prog 27 #[.agg #[.slice A x.Links.length cap]] W fun e w' => e = .returned (.bool (isCd x.Links)) ∧ Below W.heap.size W w') := fun W hW => specIsCd_any x _ F W hl (hv.kept hW)
  have HV := Lib.hid hv
  clear hv
  have HX : Hid (∀ k, k < x.Links.length → ∃ y, x.Links[k]? = some y) := fun k hk => ⟨_, List.getElem?_eq_getElem hk⟩
  have HC : Hid (cntC delK x.Links = if isCd x.Links then cntL delK x.Links else 0) := rfl
  generalize x.Links = l at *
  generalize isCd l = cd at *
  generalize cntC delK l = r at *
  go_enter Try.func10, Try.ntmps10
  go_wp2
  go_loopw [3, 4] (fun c i wr => ∃ (k : Nat), k ≤ l.length ∧ i = .int .i64 k ∧ c = .int .i64 (cntL delK (l.take k) : Nat) ∧ Hid (cd = false → k = 0) ∧ Below w.heap.size w wr ∧ InC wr w.heap.size #[.slice A l.length cap] 29) (fun _ i _ => l.length - (intOf i).toNat)
  case atStart => exact ⟨0, by omega, rfl, rfl, fun _ => rfl, (Below.refl _ _).alloc (Nat.le_refl _) _, heap_alloc_new _ _⟩
  case round =>
    obtain ⟨k, hk, rfl, rfl, hcd, hbe, hi1⟩ := hrel
    have b1 := hi1.cell 0 rfl
    have HBE := Lib.hid hbe
    have HI1 := Lib.hid hi1
    clear hbe hi1
    have hel := cntL_le delK l k
    by_cases hkl : k < l.length
    · obtain ⟨y, hy⟩ := HX.out k hkl
      go_wp2_with fail
      refine (HIS.out _ HBE.out).mono ?_
      rintro e w2 ⟨rfl, hb2⟩
      have HBE2 : Hid (Below w.heap.size w w2) := below_step HBE.out hb2
      have HI2 := Lib.hid (HI1.out.kept hb2)
      have b2 := HI2.out.cell 0 rfl
      clear hb2 b1
      obtain ⟨g, off, xs, Fk, rfl, _, hra, _, hca⟩ := (HV.out.kept HBE2.out).get hy
      obtain rfl := rLink_rd hra
      rw [rLink_size] at hca
      have c0 := hca 0 _ rfl
      have c1 := hca 1 _ rfl
      simp only [Nat.add_zero] at c0
      have HEY : Hid (decide ((y.Out.toNat : Int) = 0) = true → cntL delK (l.take (k + 1)) = cntL delK (l.take k) + 1) := fun h => cntL_yes hy h
      have HEN : Hid (decide ((y.Out.toNat : Int) = 0) = false → cntL delK (l.take (k + 1)) = cntL delK (l.take k)) := fun h => cntL_no hy h
      clear hca hra hy
      generalize cntL delK (l.take k) = E0 at *
      generalize (y.In.toNat : Int) = a at *
      generalize (y.Out.toNat : Int) = b at *
      cases cd
      · obtain rfl : k = 0 := hcd.out rfl
        have h0 : r = 0 := by rw [HC.out]; rfl
        have hE0 : E0 = 0 := by omega
        subst hE0
        subst h0
        go_wp2
        go_ret
        exact ⟨rfl, HBE2.out⟩
      · by_cases hb : b = 0
        · have HE := Lib.hid (HEY.out (by simp [hb]))
          have qb : (b == 0) = true := by simp [hb]
          have nb : (b != 0) = false := by simp [hb]
          go_wp2
          (try go_quiet (fail))
          (try go_wp2)
          go_roundw
          case rel => exact ⟨k + 1, by omega, by go_num, by rw [HE.out]; go_num, fun h => (by cases h), by first | exact HBE2.out | exact drewN_below HBE2.out | exact drewN_below (HBE2.out.alloc HBE2.out.size _) | exact HBE2.out.alloc HBE2.out.size _, by first | exact HI2.out | exact inC_drewN HI2.out | exact inC_drewN (HI2.out.kept ((Below.refl _ _).alloc (Nat.le_refl _) _)) | exact HI2.out.kept ((Below.refl _ _).alloc (Nat.le_refl _) _)⟩
          case measure => simp [intOf]; omega
        · have HE := Lib.hid (HEN.out (by simp [hb]))
          have qb : (b == 0) = false := by simp [hb]
          have nb : (b != 0) = true := by simp [hb]
          go_wp2
          (try go_quiet (fail))
          (try go_wp2)
          go_roundw
          case rel => exact ⟨k + 1, by omega, by go_num, by rw [HE.out], fun h => (by cases h), by first | exact HBE2.out | exact drewN_below HBE2.out | exact drewN_below (HBE2.out.alloc HBE2.out.size _) | exact HBE2.out.alloc HBE2.out.size _, by first | exact HI2.out | exact inC_drewN HI2.out | exact inC_drewN (HI2.out.kept ((Below.refl _ _).alloc (Nat.le_refl _) _)) | exact HI2.out.kept ((Below.refl _ _).alloc (Nat.le_refl _) _)⟩
          case measure => simp [intOf]; omega
    · obtain rfl : k = l.length := by omega
      rw [List.take_length] at *
      have HR : Hid (cntL delK l = r) := by
        unfold Hid
        rw [HC.out]
        cases cd
        · have h0 : l.length = 0 := hcd.out rfl
          have h1 : l = [] := List.eq_nil_of_length_eq_zero h0
          subst h1
          rfl
        · rfl
      go_wp2
      go_ret
      exact ⟨by rw [HR.out] <;> rfl, HBE.out⟩
set_option maxHeartbeats 4000000 in
theorem specInserted_any (x : DCandidate) (v : Value) (F : Addr → Prop) (w : World) (hl : x.Links.length ≤ 1048576) (hv : RowRd rLink false w v x.Links F) :
    Calls Try.prog 14 #[.agg #[v]] w fun e w' => e = .returned (.int .i64 (cntC insK x.Links : Nat)) ∧ Below w.heap.size w w' := by
  obtain ⟨A, cap, rfl⟩ := hv.form
  have HIS : Hid (∀ W, Below w.heap.size w W → Calls Try.prog 27 #[.agg #[.slice A x.Links.length cap]] W fun e w' => e = .returned (.bool (isCd x.Links)) ∧ Below W.heap.size W w') := fun W hW => specIsCd_any x _ F W hl (hv.kept hW)
  have HV := Lib.hid hv
  clear hv
  have HX : Hid (∀ k, k < x.Links.length → ∃ y, x.Links[k]? = some y) := fun k hk => ⟨_, List.getElem?_eq_getElem hk⟩
  have HC : Hid (cntC insK x.Links = if isCd x.Links then cntL insK x.Links else 0) := rfl
  generalize x.Links = l at *
  generalize isCd l = cd at *
  generalize cntC insK l = r at *
  go_enter Try.func14, Try.ntmps14
  go_wp2
  go_loopw [3, 4] (fun c i wr => ∃ (k : Nat), k ≤ l.length ∧ i = .int .i64 k ∧ c = .int .i64 (cntL insK (l.take k) : Nat) ∧ Hid (cd = false → k = 0) ∧ Below w.heap.size w wr ∧ InC wr w.heap.size #[.slice A l.length cap] 29) (fun _ i _ => l.length - (intOf i).toNat)
  case atStart => exact ⟨0, by omega, rfl, rfl, fun _ => rfl, (Below.refl _ _).alloc (Nat.le_refl _) _, heap_alloc_new _ _⟩
  case round =>
    obtain ⟨k, hk, rfl, rfl, hcd, hbe, hi1⟩ := hrel
    have b1 := hi1.cell 0 rfl
    have HBE := Lib.hid hbe
    have HI1 := Lib.hid hi1
    clear hbe hi1
    have hel := cntL_le insK l k
    by_cases hkl : k < l.length
    · obtain ⟨y, hy⟩ := HX.out k hkl
      go_wp2_with fail
      refine (HIS.out _ HBE.out).mono ?_
      rintro e w2 ⟨rfl, hb2⟩
      have HBE2 : Hid (Below w.heap.size w w2) := below_step HBE.out hb2
      have HI2 := Lib.hid (HI1.out.kept hb2)
      have b2 := HI2.out.cell 0 rfl
      clear hb2 b1
      obtain ⟨g, off, xs, Fk, rfl, _, hra, _, hca⟩ := (HV.out.kept HBE2.out).get hy
      obtain rfl := rLink_rd hra
      rw [rLink_size] at hca
      have c0 := hca 0 _ rfl
      have c1 := hca 1 _ rfl
      simp only [Nat.add_zero] at c0
      have HEY : Hid (decide ((y.In.toNat : Int) = 0) = true → cntL insK (l.take (k + 1)) = cntL insK (l.take k) + 1) := fun h => cntL_yes hy h
      have HEN : Hid (decide ((y.In.toNat : Int) = 0) = false → cntL insK (l.take (k + 1)) = cntL insK (l.take k)) := fun h => cntL_no hy h
      clear hca hra hy
      generalize cntL insK (l.take k) = E0 at *
      generalize (y.In.toNat : Int) = a at *
      generalize (y.Out.toNat : Int) = b at *
      cases cd
      · obtain rfl : k = 0 := hcd.out rfl
        have h0 : r = 0 := by rw [HC.out]; rfl
        have hE0 : E0 = 0 := by omega
        subst hE0
        subst h0
        go_wp2
        go_ret
        exact ⟨rfl, HBE2.out⟩
      · by_cases ha : a = 0
        · have HE := Lib.hid (HEY.out (by simp [ha]))
          have qa : (a == 0) = true := by simp [ha]
          have na : (a != 0) = false := by simp [ha]
          go_wp2
          (try go_quiet (fail))
          (try go_wp2)
          go_roundw
          case rel => exact ⟨k + 1, by omega, by go_num, by rw [HE.out]; go_num, fun h => (by cases h), by first | exact HBE2.out | exact drewN_below HBE2.out | exact drewN_below (HBE2.out.alloc HBE2.out.size _) | exact HBE2.out.alloc HBE2.out.size _, by first | exact HI2.out | exact inC_drewN HI2.out | exact inC_drewN (HI2.out.kept ((Below.refl _ _).alloc (Nat.le_refl _) _)) | exact HI2.out.kept ((Below.refl _ _).alloc (Nat.le_refl _) _)⟩
          case measure => simp [intOf]; omega
        · have HE := Lib.hid (HEN.out (by simp [ha]))
          have qa : (a == 0) = false := by simp [ha]
          have na : (a != 0) = true := by simp [ha]
          go_wp2
          (try go_quiet (fail))
          (try go_wp2)
          go_roundw
          case rel => exact ⟨k + 1, by omega, by go_num, by rw [HE.out], fun h => (by cases h), by first | exact HBE2.out | exact drewN_below HBE2.out | exact drewN_below (HBE2.out.alloc HBE2.out.size _) | exact HBE2.out.alloc HBE2.out.size _, by first | exact HI2.out | exact inC_drewN HI2.out | exact inC_drewN (HI2.out.kept ((Below.refl _ _).alloc (Nat.le_refl _) _)) | exact HI2.out.kept ((Below.refl _ _).alloc (Nat.le_refl _) _)⟩
          case measure => simp [intOf]; omega
    · obtain rfl : k = l.length := by omega
      rw [List.take_length] at *
      have HR : Hid (cntL insK l = r) := by
        unfold Hid
        rw [HC.out]
        cases cd
        · have h0 : l.length = 0 := hcd.out rfl
          have h1 : l = [] := List.eq_nil_of_length_eq_zero h0
          subst h1
          rfl
        · rfl
      go_wp2
      go_ret
      exact ⟨by rw [HR.out] <;> rfl, HBE.out⟩
set_option maxHeartbeats 4000000 in
theorem specVoiceChanged_any (x : DCandidate) (v : Value) (F : Addr → Prop) (w : World) (hl : x.Links.length ≤ 1048576) (hv : RowRd rLink false w v x.Links F) :
    Calls Try.prog 16 #[.agg #[v]] w fun e w' => e = .returned (.int .i64 (cntC vchK x.Links : Nat)) ∧ Below w.heap.size w w' := by
  obtain ⟨A, cap, rfl⟩ := hv.form
  have HIS : Hid (∀ W, Below w.heap.size w W → Calls Try.prog 27 #[.agg #[.slice A x.Links.length cap]] W fun e w' => e = .returned (.bool (isCd x.Links)) ∧ Below W.heap.size W w') := fun W hW => specIsCd_any x _ F W hl (hv.kept hW)
  have HV := Lib.hid hv
  clear hv
  have HX : Hid (∀ k, k < x.Links.length → ∃ y, x.Links[k]? = some y) := fun k hk => ⟨_, List.getElem?_eq_getElem hk⟩
  have HC : Hid (cntC vchK x.Links = if isCd x.Links then cntL vchK x.Links else 0) := rfl
  generalize x.Links = l at *
  generalize isCd l = cd at *
  generalize cntC vchK l = r at *
  go_enter Try.func16, Try.ntmps16
  go_wp2
  go_loopw [3, 4] (fun c i wr => ∃ (k : Nat), k ≤ l.length ∧ i = .int .i64 k ∧ c = .int .i64 (cntL vchK (l.take k) : Nat) ∧ Hid (cd = false → k = 0) ∧ Below w.heap.size w wr ∧ InC wr w.heap.size #[.slice A l.length cap] 29) (fun _ i _ => l.length - (intOf i).toNat)
  case atStart => exact ⟨0, by omega, rfl, rfl, fun _ => rfl, (Below.refl _ _).alloc (Nat.le_refl _) _, heap_alloc_new _ _⟩
  case round =>
    obtain ⟨k, hk, rfl, rfl, hcd, hbe, hi1⟩ := hrel
    have b1 := hi1.cell 0 rfl
    have HBE := Lib.hid hbe
    have HI1 := Lib.hid hi1
    clear hbe hi1
    have hel := cntL_le vchK l k
    by_cases hkl : k < l.length
    · obtain ⟨y, hy⟩ := HX.out k hkl
      go_wp2_with fail
      refine (HIS.out _ HBE.out).mono ?_
      rintro e w2 ⟨rfl, hb2⟩
      have HBE2 : Hid (Below w.heap.size w w2) := below_step HBE.out hb2
      have HI2 := Lib.hid (HI1.out.kept hb2)
      have b2 := HI2.out.cell 0 rfl
      clear hb2 b1
      obtain ⟨g, off, xs, Fk, rfl, _, hra, _, hca⟩ := (HV.out.kept HBE2.out).get hy
      obtain rfl := rLink_rd hra
      rw [rLink_size] at hca
      have c0 := hca 0 _ rfl
      have c1 := hca 1 _ rfl
      simp only [Nat.add_zero] at c0
      have HEY : Hid (((!decide ((y.Out.toNat : Int) = 0) && !decide ((y.In.toNat : Int) = 0)) && !decide ((y.In.toNat : Int) = (y.Out.toNat : Int))) = true → cntL vchK (l.take (k + 1)) = cntL vchK (l.take k) + 1) := fun h => cntL_yes hy h
      have HEN : Hid (((!decide ((y.Out.toNat : Int) = 0) && !decide ((y.In.toNat : Int) = 0)) && !decide ((y.In.toNat : Int) = (y.Out.toNat : Int))) = false → cntL vchK (l.take (k + 1)) = cntL vchK (l.take k)) := fun h => cntL_no hy h
      clear hca hra hy
      generalize cntL vchK (l.take k) = E0 at *
      generalize (y.In.toNat : Int) = a at *
      generalize (y.Out.toNat : Int) = b at *
      cases cd
      · obtain rfl : k = 0 := hcd.out rfl
        have h0 : r = 0 := by rw [HC.out]; rfl
        have hE0 : E0 = 0 := by omega
        subst hE0
        subst h0
        go_wp2
        go_ret
        exact ⟨rfl, HBE2.out⟩
      · by_cases ha : a = 0
        · have HE := Lib.hid (HEN.out (by simp [ha]))
          have qa : (a == 0) = true := by simp [ha]
          have na : (a != 0) = false := by simp [ha]
          go_wp2
          (try go_quiet (fail))
          (try go_wp2)
          go_roundw
          case rel => exact ⟨k + 1, by omega, by go_num, by rw [HE.out], fun h => (by cases h), by first | exact HBE2.out | exact drewN_below HBE2.out | exact drewN_below (HBE2.out.alloc HBE2.out.size _) | exact HBE2.out.alloc HBE2.out.size _, by first | exact HI2.out | exact inC_drewN HI2.out | exact inC_drewN (HI2.out.kept ((Below.refl _ _).alloc (Nat.le_refl _) _)) | exact HI2.out.kept ((Below.refl _ _).alloc (Nat.le_refl _) _)⟩
          case measure => simp [intOf]; omega
        · by_cases hb : b = 0
          · have HE := Lib.hid (HEN.out (by simp [ha, hb]))
            have qa : (a == 0) = false := by simp [ha]
            have qb : (b == 0) = true := by simp [hb]
            have na : (a != 0) = true := by simp [ha]
            have nb : (b != 0) = false := by simp [hb]
            go_wp2
            (try go_quiet (fail))
            (try go_wp2)
            go_roundw
            case rel => exact ⟨k + 1, by omega, by go_num, by rw [HE.out], fun h => (by cases h), by first | exact HBE2.out | exact drewN_below HBE2.out | exact drewN_below (HBE2.out.alloc HBE2.out.size _) | exact HBE2.out.alloc HBE2.out.size _, by first | exact HI2.out | exact inC_drewN HI2.out | exact inC_drewN (HI2.out.kept ((Below.refl _ _).alloc (Nat.le_refl _) _)) | exact HI2.out.kept ((Below.refl _ _).alloc (Nat.le_refl _) _)⟩
            case measure => simp [intOf]; omega
          · by_cases hab : a = b
            · have HE := Lib.hid (HEN.out (by simp [ha, hb, hab]))
              have qa : (a == 0) = false := by simp [ha]
              have qb : (b == 0) = false := by simp [hb]
              have qab : (a == b) = true := by simp [hab]
              have na : (a != 0) = true := by simp [ha]
              have nb : (b != 0) = true := by simp [hb]
              have nab : (a != b) = false := by simp [hab]
              go_wp2
              (try go_quiet (fail))
              (try go_wp2)
              go_roundw
              case rel => exact ⟨k + 1, by omega, by go_num, by rw [HE.out], fun h => (by cases h), by first | exact HBE2.out | exact drewN_below HBE2.out | exact drewN_below (HBE2.out.alloc HBE2.out.size _) | exact HBE2.out.alloc HBE2.out.size _, by first | exact HI2.out | exact inC_drewN HI2.out | exact inC_drewN (HI2.out.kept ((Below.refl _ _).alloc (Nat.le_refl _) _)) | exact HI2.out.kept ((Below.refl _ _).alloc (Nat.le_refl _) _)⟩
              case measure => simp [intOf]; omega
            · have HE := Lib.hid (HEY.out (by simp [ha, hb, hab]))
              have qa : (a == 0) = false := by simp [ha]
              have qb : (b == 0) = false := by simp [hb]
              have qab : (a == b) = false := by simp [hab]
              have na : (a != 0) = true := by simp [ha]
              have nb : (b != 0) = true := by simp [hb]
              have nab : (a != b) = true := by simp [hab]
              go_wp2
              (try go_quiet (fail))
              (try go_wp2)
              go_roundw
              case rel => exact ⟨k + 1, by omega, by go_num, by rw [HE.out]; go_num, fun h => (by cases h), by first | exact HBE2.out | exact drewN_below HBE2.out | exact drewN_below (HBE2.out.alloc HBE2.out.size _) | exact HBE2.out.alloc HBE2.out.size _, by first | exact HI2.out | exact inC_drewN HI2.out | exact inC_drewN (HI2.out.kept ((Below.refl _ _).alloc (Nat.le_refl _) _)) | exact HI2.out.kept ((Below.refl _ _).alloc (Nat.le_refl _) _)⟩
              case measure => simp [intOf]; omega
    · obtain rfl : k = l.length := by omega
      rw [List.take_length] at *
      have HR : Hid (cntL vchK l = r) := by
        unfold Hid
        rw [HC.out]
        cases cd
        · have h0 : l.length = 0 := hcd.out rfl
          have h1 : l = [] := List.eq_nil_of_length_eq_zero h0
          subst h1
          rfl
        · rfl
      go_wp2
      go_ret
      exact ⟨by rw [HR.out] <;> rfl, HBE.out⟩
end Go.Proofs.Ytfcmhbbeohhjmaa
