/- The model's IsCandidate, InputOf, OutputOf: what they answer. -/
import Derived.Test.YtfcmhbbeohhjmaaMc1
namespace Go.Proofs.Ytfcmhbbeohhjmaa
set_option maxRecDepth 100000
open Go.RowKit M
set_option linter.unusedVariables false
set_option linter.unusedSimpArgs false

set_option maxRecDepth 100000 in
set_option maxHeartbeats 8000000 in
theorem specIsCd_any (x : DCandidate) (v : Value) (F : Addr → Prop) (w : World) (hl : x.Links.length ≤ 1048576) (hv : RowRd rLink false w v x.Links F) :
    Calls Try.prog 27 #[.agg #[v]] w fun e w' => e = .returned (.bool (isCd x.Links)) ∧ Below w.heap.size w w' := by
  obtain ⟨A, cap, rfl⟩ := hv.form
  have HV := Lib.hid hv
  clear hv
  have HX : Hid (∀ k, k < x.Links.length → ∃ y, x.Links[k]? = some y) := fun k hk => ⟨_, List.getElem?_eq_getElem hk⟩
  have HNOT : Hid (∀ k (y : DLink), x.Links[k]? = some y → okI (y.In.toNat : Int) (y.Out.toNat : Int) = false → isCd x.Links = false) := fun k y h1 h2 => isCd_not h1 h2
  go_enter Try.func27, Try.ntmps27
  go_wp2
  go_loopw [3] (fun i wr => ∃ (k : Nat), k ≤ x.Links.length ∧ i = .int .i64 k ∧ Hid (∀ j (y : DLink), x.Links[j]? = some y → j < k → okI (y.In.toNat : Int) (y.Out.toNat : Int) = true) ∧ Below w.heap.size w wr ∧ InC wr w.heap.size #[.slice A x.Links.length cap] 29) (fun i _ => x.Links.length - (intOf i).toNat)
  case atStart => exact ⟨0, by omega, rfl, fun j y _ h => by omega, (Below.refl _ _).alloc (Nat.le_refl _) _, heap_alloc_new _ _⟩
  case round =>
    obtain ⟨k, hk, rfl, hall, hbe, hi1⟩ := hrel
    have b1 := hi1.cell 0 rfl
    have HBE := Lib.hid hbe
    have HI1 := Lib.hid hi1
    clear hbe hi1
    by_cases hkl : k < x.Links.length
    · obtain ⟨y, hy⟩ := HX.out k hkl
      obtain ⟨g, off, xs, Fk, rfl, _, hra, _, hca⟩ := (HV.out.kept HBE.out).get hy
      obtain rfl := rLink_rd hra
      rw [rLink_size] at hca
      have c0 := hca 0 _ rfl
      have c1 := hca 1 _ rfl
      simp only [Nat.add_zero] at c0
      have HY := Lib.hid hy
      clear hca hra hy
      have HOK : Hid (okI (y.In.toNat : Int) (y.Out.toNat : Int) = true → ∀ j (z : DLink), x.Links[j]? = some z → j < k + 1 → okI (z.In.toNat : Int) (z.Out.toNat : Int) = true) := fun h j z hz hj => by
        by_cases hjk : j = k
        · subst hjk; rw [HY.out] at hz; cases hz; exact h
        · exact hall.out j z hz (by omega)
      have HNO := Lib.hid (HNOT.out k y HY.out)
      have ha := u8_in y.In
      have hb := u8_in y.Out
      generalize (y.In.toNat : Int) = a at *
      generalize (y.Out.toNat : Int) = b at *
      have HAB := Lib.hid (And.intro ha hb)
      have HM : Hid (okM a b = okI a b) := okM_eq a b
      have HB2 : Hid (Below w.heap.size w (wr.alloc (.cells #[.int .u8 a, .int .u8 b] 40))) := HBE.out.alloc HBE.out.size _
      have HI2 : Hid (InC (wr.alloc (.cells #[.int .u8 a, .int .u8 b] 40)) w.heap.size #[.slice (some ⟨g, off, none⟩) x.Links.length cap] 29) := HI1.out.kept ((Below.refl _ _).alloc (Nat.le_refl _) _)
      clear ha hb HY
      go_wp2_with fail
      refine (specSwap_any a _).mono ?_
      rintro e w2 ⟨rfl, rfl⟩
      have HSA : Hid (∀ W, Calls Try.prog 48 #[.int .u8 a] W fun e w' => e = .returned (.bool (isSnd a)) ∧ W = w') := fun W => specIsSound_any a W
      have HSB : Hid (∀ W, Calls Try.prog 48 #[.int .u8 b] W fun e w' => e = .returned (.bool (isSnd b)) ∧ W = w') := fun W => specIsSound_any b W
      have b2 := HI2.out.cell 0 rfl
      have HM2 : Hid (okI a b = (!((!decide (a = 0) && !isSnd a) || (!decide (b = 0) && !isSnd b) || (decide (a = 0) && decide (b = 0))) && !(!decide (a = 0) && !decide (b = 0) && !decide (a = b) && !(isObs a && decide (swapV a = b))))) := HM.out.symm
      generalize isSnd a = sa at *
      generalize isSnd b = sb at *
      generalize swapV a = s at *
      generalize isObs a = oa at *
      by_cases ha0 : a = 0
      · subst ha0
        by_cases hb0 : b = 0
        · subst hb0
          have HR := Lib.hid (HNO.out (by rw [HM2.out]; simp))
          go_wp2_with fail
          go_ret
          exact ⟨ret_bool HR.out.symm, HB2.out⟩
        · cases sb
          · have HR := Lib.hid (HNO.out (by rw [HM2.out]; simp [hb0]))
            go_wp2_with fail
            refine (HSB.out _).mono ?_
            rintro e w2 ⟨rfl, rfl⟩
            go_wp2_with fail
            go_ret
            exact ⟨ret_bool HR.out.symm, HB2.out⟩
          · have HALL := Lib.hid (HOK.out (by rw [HM2.out]; simp [hb0]))
            go_wp2_with fail
            refine (HSB.out _).mono ?_
            rintro e w2 ⟨rfl, rfl⟩
            go_wp2_with fail
            go_roundw
            case rel => exact ⟨k + 1, by omega, by go_num, HALL, HB2.out, HI2.out⟩
            case measure => simp [intOf]; omega
      · cases sa
        · have HR := Lib.hid (HNO.out (by rw [HM2.out]; simp [ha0]))
          go_wp2_with fail
          refine (HSA.out _).mono ?_
          rintro e w2 ⟨rfl, rfl⟩
          go_wp2_with fail
          go_ret
          exact ⟨ret_bool HR.out.symm, HB2.out⟩
        · by_cases hb0 : b = 0
          · subst hb0
            have HALL := Lib.hid (HOK.out (by rw [HM2.out]; simp [ha0]))
            go_wp2_with fail
            refine (HSA.out _).mono ?_
            rintro e w2 ⟨rfl, rfl⟩
            go_wp2_with fail
            go_roundw
            case rel => exact ⟨k + 1, by omega, by go_num, HALL, HB2.out, HI2.out⟩
            case measure => simp [intOf]; omega
          · cases sb
            · have HR := Lib.hid (HNO.out (by rw [HM2.out]; simp [ha0, hb0]))
              go_wp2_with fail
              refine (HSA.out _).mono ?_
              rintro e w2 ⟨rfl, rfl⟩
              go_wp2_with fail
              refine (HSB.out _).mono ?_
              rintro e w2 ⟨rfl, rfl⟩
              go_wp2_with fail
              go_ret
              exact ⟨ret_bool HR.out.symm, HB2.out⟩
            · go_wp2_with fail
              refine (HSA.out _).mono ?_
              rintro e w2 ⟨rfl, rfl⟩
              go_wp2_with fail
              refine (HSB.out _).mono ?_
              rintro e w2 ⟨rfl, rfl⟩
              by_cases hab : a = b
              · subst hab
                have HALL := Lib.hid (HOK.out (by rw [HM2.out]; simp [ha0]))
                go_wp2_with fail
                go_roundw
                case rel => exact ⟨k + 1, by omega, by go_num, HALL, HB2.out, HI2.out⟩
                case measure => simp [intOf]; omega
              · have q1 : (a != 0) = true := by simpa using ha0
                have q2 : (b != 0) = true := by simpa using hb0
                have q3 : (a != b) = true := by simpa using hab
                cases oa
                · have HR := Lib.hid (HNO.out (by rw [HM2.out]; simp [ha0, hb0, hab]))
                  go_wp2_with fail
                  go_ret
                  exact ⟨ret_bool HR.out.symm, HB2.out⟩
                · by_cases hsb : s = b
                  · subst hsb
                    have HALL := Lib.hid (HOK.out (by rw [HM2.out]; simp [ha0, hb0, hab]))
                    go_wp2_with fail
                    go_roundw
                    case rel => exact ⟨k + 1, by omega, by go_num, HALL, HB2.out, HI2.out⟩
                    case measure => simp [intOf]; omega
                  · have HR := Lib.hid (HNO.out (by rw [HM2.out]; simp [ha0, hb0, hab, hsb]))
                    have q4 : (s == b) = false := by simpa using hsb
                    go_wp2_with fail
                    go_ret
                    exact ⟨ret_bool HR.out.symm, HB2.out⟩
    · obtain rfl : k = x.Links.length := by omega
      have HI : Hid (isCd x.Links = (decide ((x.Links.length : Int) ≤ 16) && (isFm ⟨(inL x.Links).toArray⟩ && isFm ⟨(outL x.Links).toArray⟩))) := by
        unfold Hid isCd
        rw [all_ok (fun j y h1 h2 => hall.out j y h1 h2), Bool.true_and]
      by_cases h16 : (x.Links.length : Int) ≤ 16
      · have hli := inL_len_all x.Links
        have hlo := outL_len_all x.Links
        have HLI : Hid ((⟨(inL x.Links).toArray⟩ : ByteArray).size ≤ maxLen) := by unfold Hid maxLen; simp [ByteArray.size]; omega
        have HLO : Hid ((⟨(outL x.Links).toArray⟩ : ByteArray).size ≤ maxLen) := by unfold Hid maxLen; simp [ByteArray.size]; omega
        have HS1 : Hid (∀ W, Below w.heap.size w W → Calls Try.prog 50 #[.agg #[.slice A x.Links.length cap]] W fun e w' => e = .returned (.string ⟨(inL x.Links).toArray⟩) ∧ Below W.heap.size W w') := fun W hW => specIn_cd x _ F W hl (HV.out.kept hW)
        have HS2 : Hid (∀ W, Below w.heap.size w W → Calls Try.prog 51 #[.agg #[.slice A x.Links.length cap]] W fun e w' => e = .returned (.string ⟨(outL x.Links).toArray⟩) ∧ Below W.heap.size W w') := fun W hW => specOut_cd x _ F W hl (HV.out.kept hW)
        have HI' : Hid (isCd x.Links = (isFm ⟨(inL x.Links).toArray⟩ && isFm ⟨(outL x.Links).toArray⟩)) := by unfold Hid; rw [HI.out, decide_eq_true h16, Bool.true_and]
        go_wp2_with fail
        refine (HS1.out _ HBE.out).mono ?_
        rintro e w2 ⟨rfl, hb2⟩
        have b2 := (HI1.out.kept hb2).cell 0 rfl
        have HB2 : Hid (Below w.heap.size w w2) := below_step HBE.out hb2
        clear hb2
        go_wp2_with fail
        refine (specFm_any ⟨(inL x.Links).toArray⟩ _ HLI.out).mono ?_
        rintro e w3 ⟨rfl, rfl⟩
        generalize isFm ⟨(inL x.Links).toArray⟩ = fi at *
        cases fi
        · go_wp2_with fail
          go_ret
          exact ⟨ret_bool (by rw [HI'.out] <;> simp), HB2.out⟩
        · go_wp2_with fail
          refine (HS2.out _ HB2.out).mono ?_
          rintro e w3 ⟨rfl, hb3⟩
          have HB3 : Hid (Below w.heap.size w w3) := below_step HB2.out hb3
          clear hb3
          go_wp2_with fail
          refine (specFm_any ⟨(outL x.Links).toArray⟩ _ HLO.out).mono ?_
          rintro e w4 ⟨rfl, rfl⟩
          go_wp2_with fail
          go_ret
          exact ⟨ret_bool (by rw [HI'.out] <;> simp), HB3.out⟩
      · have HR : Hid (isCd x.Links = false) := by unfold Hid; rw [HI.out, decide_eq_false h16, Bool.false_and]
        go_wp2_with fail
        go_ret
        exact ⟨ret_bool (by rw [HR.out] <;> simp [h16]), HBE.out⟩
def inS (l : List DLink) : List UInt8 := if isCd l then inL l else []
def outS (l : List DLink) : List UInt8 := if isCd l then outL l else []
set_option maxHeartbeats 4000000 in
theorem specInput_any (x : DCandidate) (v : Value) (F : Addr → Prop) (w : World) (hl : x.Links.length ≤ 1048576) (hv : RowRd rLink false w v x.Links F) :
    Calls Try.prog 41 #[.agg #[v]] w fun e w' => e = .returned (.string ⟨(inS x.Links).toArray⟩) ∧ Below w.heap.size w w' := by
  have HS0 : Hid (∀ W, Below w.heap.size w W → Calls Try.prog 27 #[.agg #[v]] W fun e w' => e = .returned (.bool (isCd x.Links)) ∧ Below W.heap.size W w') := fun W hW => specIsCd_any x _ F W hl (hv.kept hW)
  have HS1 : Hid (∀ W, Below w.heap.size w W → Calls Try.prog 50 #[.agg #[v]] W fun e w' => e = .returned (.string ⟨(inL x.Links).toArray⟩) ∧ Below W.heap.size W w') := fun W hW => specIn_cd x _ F W hl (hv.kept hW)
  obtain ⟨A, cap, rfl⟩ := hv.form
  clear hv
  have HE : Hid (inS x.Links = if isCd x.Links then inL x.Links else []) := rfl
  generalize isCd x.Links = c at *
  generalize inS x.Links = r at *
  have HA : Hid (∀ o, Below w.heap.size w (w.alloc o)) := fun o => (Below.refl _ _).alloc (Nat.le_refl _) _
  have HA1 : Hid (InC (w.alloc (.cells #[.slice A x.Links.length cap] 29)) w.heap.size #[.slice A x.Links.length cap] 29) := heap_alloc_new _ _
  go_enter Try.func41, Try.ntmps41
  go_wp2_with fail
  refine (HS0.out _ (HA.out _)).mono ?_
  rintro e w2 ⟨rfl, hb⟩
  have b1 := (HA1.out.kept hb).cell 0 rfl
  have HB : Hid (Below w.heap.size w w2) := below_step (HA.out _) hb
  clear hb
  cases c
  · go_wp2_with fail
    go_ret
    exact ⟨ret_str (by rw [HE.out] <;> rfl), HB.out⟩
  · go_wp2_with fail
    refine (HS1.out _ HB.out).mono ?_
    rintro e w3 ⟨rfl, hb⟩
    have HB3 : Hid (Below w.heap.size w w3) := below_step HB.out hb
    clear hb
    go_wp2_with fail
    go_ret
    exact ⟨ret_str (by rw [HE.out] <;> rfl), HB3.out⟩
set_option maxHeartbeats 4000000 in
theorem specOutput_any (x : DCandidate) (v : Value) (F : Addr → Prop) (w : World) (hl : x.Links.length ≤ 1048576) (hv : RowRd rLink false w v x.Links F) :
    Calls Try.prog 40 #[.agg #[v]] w fun e w' => e = .returned (.string ⟨(outS x.Links).toArray⟩) ∧ Below w.heap.size w w' := by
  have HS0 : Hid (∀ W, Below w.heap.size w W → Calls Try.prog 27 #[.agg #[v]] W fun e w' => e = .returned (.bool (isCd x.Links)) ∧ Below W.heap.size W w') := fun W hW => specIsCd_any x _ F W hl (hv.kept hW)
  have HS1 : Hid (∀ W, Below w.heap.size w W → Calls Try.prog 51 #[.agg #[v]] W fun e w' => e = .returned (.string ⟨(outL x.Links).toArray⟩) ∧ Below W.heap.size W w') := fun W hW => specOut_cd x _ F W hl (hv.kept hW)
  obtain ⟨A, cap, rfl⟩ := hv.form
  clear hv
  have HE : Hid (outS x.Links = if isCd x.Links then outL x.Links else []) := rfl
  generalize isCd x.Links = c at *
  generalize outS x.Links = r at *
  have HA : Hid (∀ o, Below w.heap.size w (w.alloc o)) := fun o => (Below.refl _ _).alloc (Nat.le_refl _) _
  have HA1 : Hid (InC (w.alloc (.cells #[.slice A x.Links.length cap] 29)) w.heap.size #[.slice A x.Links.length cap] 29) := heap_alloc_new _ _
  go_enter Try.func40, Try.ntmps40
  go_wp2_with fail
  refine (HS0.out _ (HA.out _)).mono ?_
  rintro e w2 ⟨rfl, hb⟩
  have b1 := (HA1.out.kept hb).cell 0 rfl
  have HB : Hid (Below w.heap.size w w2) := below_step (HA.out _) hb
  clear hb
  cases c
  · go_wp2_with fail
    go_ret
    exact ⟨ret_str (by rw [HE.out] <;> rfl), HB.out⟩
  · go_wp2_with fail
    refine (HS1.out _ HB.out).mono ?_
    rintro e w3 ⟨rfl, hb⟩
    have HB3 : Hid (Below w.heap.size w w3) := below_step HB.out hb
    clear hb
    go_wp2_with fail
    go_ret
    exact ⟨ret_str (by rw [HE.out] <;> rfl), HB3.out⟩
end Go.Proofs.Ytfcmhbbeohhjmaa
