/- The program's counts of links, and its IsFaithful: what they answer. -/
import Derived.Test.YtfcmhbbeohhjmaaIc9
import Derived.Test.YtfcmhbbeohhjmaaIc6v
import Derived.Test.YtfcmhbbeohhjmaaMc2
namespace Go.Proofs.Ytfcmhbbeohhjmaa
set_option maxRecDepth 100000
open Go.RowKit M
set_option linter.unusedVariables false
set_option linter.unusedSimpArgs false
set_option maxRecDepth 100000

/-- Whether a candidate is valid and has no edits. -/
def fthB (l : List DLink) : Bool := isCd l && decide (edits l = 0)
theorem implDeleted_any (x : DCandidate) (v : Value) (F : Addr → Prop) (w : World) (hl : x.Links.length ≤ 1048576) (hv : RowRd rLink false w v x.Links F) :
    Calls Try.prog 12 #[.agg #[v]] w fun e w' => e = .returned (.int .i64 (cntC delK x.Links : Nat)) ∧ Below w.heap.size w w' := by
  have HV : Hid (∀ W, Below w.heap.size w W → Calls Try.prog 30 #[.agg #[v]] W fun e w' => ∃ u, e = .returned u ∧ RowRd rLink false w' u (valL x.Links) F ∧ Below W.heap.size W w') := fun W hW => valid_any x.Links v F W hl (hv.kept hW)
  have HE : Hid (cntL delK (valL x.Links) = cntC delK x.Links) := cnt_val _ _
  have HN : Hid ((valL x.Links).length ≤ 1048576) := Nat.le_trans (val_len _) hl
  obtain ⟨A, cap, rfl⟩ := hv.form
  clear hv
  generalize valL x.Links = m at *
  generalize cntC delK x.Links = r at *
  have HB : Hid (Below w.heap.size w (w.alloc (.cells #[.slice A x.Links.length cap] 29))) := (Below.refl _ _).alloc (Nat.le_refl _) _
  go_enter Try.func12, Try.ntmps12
  go_wp2_with fail
  refine (HV.out _ HB.out).mono ?_
  rintro e w2 ⟨u, rfl, hu, hb2⟩
  have HB2 : Hid (Below w.heap.size w w2) := below_step HB.out hb2
  have HU := Lib.hid hu
  clear hb2 hu
  go_wp2_with fail
  refine (countLinks_any _ _ cAway m u F w2 HN.out HU.out).mono ?_
  rintro e w3 ⟨rfl, hb3⟩
  have HB3 : Hid (Below w.heap.size w w3) := below_step HB2.out hb3
  clear hb3
  go_wp2_with fail
  go_ret
  exact ⟨by rw [HE.out] <;> rfl, HB3.out⟩
theorem implInserted_any (x : DCandidate) (v : Value) (F : Addr → Prop) (w : World) (hl : x.Links.length ≤ 1048576) (hv : RowRd rLink false w v x.Links F) :
    Calls Try.prog 15 #[.agg #[v]] w fun e w' => e = .returned (.int .i64 (cntC insK x.Links : Nat)) ∧ Below w.heap.size w w' := by
  have HV : Hid (∀ W, Below w.heap.size w W → Calls Try.prog 30 #[.agg #[v]] W fun e w' => ∃ u, e = .returned u ∧ RowRd rLink false w' u (valL x.Links) F ∧ Below W.heap.size W w') := fun W hW => valid_any x.Links v F W hl (hv.kept hW)
  have HE : Hid (cntL insK (valL x.Links) = cntC insK x.Links) := cnt_val _ _
  have HN : Hid ((valL x.Links).length ≤ 1048576) := Nat.le_trans (val_len _) hl
  obtain ⟨A, cap, rfl⟩ := hv.form
  clear hv
  generalize valL x.Links = m at *
  generalize cntC insK x.Links = r at *
  have HB : Hid (Below w.heap.size w (w.alloc (.cells #[.slice A x.Links.length cap] 29))) := (Below.refl _ _).alloc (Nat.le_refl _) _
  go_enter Try.func15, Try.ntmps15
  go_wp2_with fail
  refine (HV.out _ HB.out).mono ?_
  rintro e w2 ⟨u, rfl, hu, hb2⟩
  have HB2 : Hid (Below w.heap.size w w2) := below_step HB.out hb2
  have HU := Lib.hid hu
  clear hb2 hu
  go_wp2_with fail
  refine (countLinks_any _ _ cPutin m u F w2 HN.out HU.out).mono ?_
  rintro e w3 ⟨rfl, hb3⟩
  have HB3 : Hid (Below w.heap.size w w3) := below_step HB2.out hb3
  clear hb3
  go_wp2_with fail
  go_ret
  exact ⟨by rw [HE.out] <;> rfl, HB3.out⟩
theorem implVoiceChanged_any (x : DCandidate) (v : Value) (F : Addr → Prop) (w : World) (hl : x.Links.length ≤ 1048576) (hv : RowRd rLink false w v x.Links F) :
    Calls Try.prog 17 #[.agg #[v]] w fun e w' => e = .returned (.int .i64 (cntC vchK x.Links : Nat)) ∧ Below w.heap.size w w' := by
  have HV : Hid (∀ W, Below w.heap.size w W → Calls Try.prog 30 #[.agg #[v]] W fun e w' => ∃ u, e = .returned u ∧ RowRd rLink false w' u (valL x.Links) F ∧ Below W.heap.size W w') := fun W hW => valid_any x.Links v F W hl (hv.kept hW)
  have HE : Hid (cntL vchK (valL x.Links) = cntC vchK x.Links) := cnt_val _ _
  have HN : Hid ((valL x.Links).length ≤ 1048576) := Nat.le_trans (val_len _) hl
  obtain ⟨A, cap, rfl⟩ := hv.form
  clear hv
  generalize valL x.Links = m at *
  generalize cntC vchK x.Links = r at *
  have HB : Hid (Below w.heap.size w (w.alloc (.cells #[.slice A x.Links.length cap] 29))) := (Below.refl _ _).alloc (Nat.le_refl _) _
  go_enter Try.func17, Try.ntmps17
  go_wp2_with fail
  refine (HV.out _ HB.out).mono ?_
  rintro e w2 ⟨u, rfl, hu, hb2⟩
  have HB2 : Hid (Below w.heap.size w w2) := below_step HB.out hb2
  have HU := Lib.hid hu
  clear hb2 hu
  go_wp2_with fail
  refine (countLinks_any _ _ cVoice m u F w2 HN.out HU.out).mono ?_
  rintro e w3 ⟨rfl, hb3⟩
  have HB3 : Hid (Below w.heap.size w w3) := below_step HB2.out hb3
  clear hb3
  go_wp2_with fail
  go_ret
  exact ⟨by rw [HE.out] <;> rfl, HB3.out⟩
theorem implFaithful_any (x : DCandidate) (v : Value) (F : Addr → Prop) (w : World) (hl : x.Links.length ≤ 1048576) (hv : RowRd rLink false w v x.Links F) :
    Calls Try.prog 21 #[.agg #[v]] w fun e w' => e = .returned (.bool (fthB x.Links)) ∧ Below w.heap.size w w' := by
  have HIS : Hid (∀ W, Below w.heap.size w W → Calls Try.prog 38 #[.agg #[v]] W fun e w' => e = .returned (.bool (isCd x.Links)) ∧ Below W.heap.size W w') := fun W hW => implIsCd_any x v F W hl (hv.kept hW)
  have HED : Hid (∀ W, Below w.heap.size w W → Calls Try.prog 39 #[.agg #[v]] W fun e w' => e = .returned (.int .i64 (edits x.Links : Nat)) ∧ Below W.heap.size W w') := fun W hW => implEdits_any x v F W hl (hv.kept hW)
  have HE : Hid (fthB x.Links = (isCd x.Links && ((edits x.Links : Int) == 0))) := by unfold Hid fthB; congr 1; rw [Bool.eq_iff_iff]; simp
  obtain ⟨A, cap, rfl⟩ := hv.form
  clear hv
  generalize isCd x.Links = c at *
  generalize edits x.Links = n at *
  generalize fthB x.Links = r at *
  have HB : Hid (Below w.heap.size w (w.alloc (.cells #[.slice A x.Links.length cap] 29))) := (Below.refl _ _).alloc (Nat.le_refl _) _
  have HX : Hid (InC (w.alloc (.cells #[.slice A x.Links.length cap] 29)) w.heap.size #[.slice A x.Links.length cap] 29) := heap_alloc_new _ _
  go_enter Try.func21, Try.ntmps21
  go_wp2_with fail
  refine (HIS.out _ HB.out).mono ?_
  rintro e w2 ⟨rfl, hb2⟩
  have HX2 := HX.out.kept hb2
  have c0 := HX2.cell 0 rfl
  have HB2 : Hid (Below w.heap.size w w2) := below_step HB.out hb2
  clear hb2
  cases c
  · go_wp2_with fail
    go_ret
    exact ⟨ret_bool (by rw [HE.out]; rfl), HB2.out⟩
  · go_wp2_with fail
    refine (HED.out _ HB2.out).mono ?_
    rintro e w3 ⟨rfl, hb3⟩
    have HB3 : Hid (Below w.heap.size w w3) := below_step HB2.out hb3
    clear hb3
    go_wp2_with fail
    go_ret
    refine ⟨ret_bool ?_, HB3.out⟩
    rw [HE.out, Bool.true_and]
theorem specFaithful_any (x : DCandidate) (v : Value) (F : Addr → Prop) (w : World) (hl : x.Links.length ≤ 1048576) (hv : RowRd rLink false w v x.Links F) :
    Calls Try.prog 20 #[.agg #[v]] w fun e w' => e = .returned (.bool (fthB x.Links)) ∧ Below w.heap.size w w' := by
  have HIS : Hid (∀ W, Below w.heap.size w W → Calls Try.prog 27 #[.agg #[v]] W fun e w' => e = .returned (.bool (isCd x.Links)) ∧ Below W.heap.size W w') := fun W hW => specIsCd_any x v F W hl (hv.kept hW)
  have HED : Hid (∀ W, Below w.heap.size w W → Calls Try.prog 37 #[.agg #[v]] W fun e w' => e = .returned (.int .i64 (edits x.Links : Nat)) ∧ Below W.heap.size W w') := fun W hW => specEdits_any x v F W hl (hv.kept hW)
  have HE : Hid (fthB x.Links = (isCd x.Links && ((edits x.Links : Int) == 0))) := by unfold Hid fthB; congr 1; rw [Bool.eq_iff_iff]; simp
  obtain ⟨A, cap, rfl⟩ := hv.form
  clear hv
  generalize isCd x.Links = c at *
  generalize edits x.Links = n at *
  generalize fthB x.Links = r at *
  have HB : Hid (Below w.heap.size w (w.alloc (.cells #[.slice A x.Links.length cap] 29))) := (Below.refl _ _).alloc (Nat.le_refl _) _
  have HX : Hid (InC (w.alloc (.cells #[.slice A x.Links.length cap] 29)) w.heap.size #[.slice A x.Links.length cap] 29) := heap_alloc_new _ _
  go_enter Try.func20, Try.ntmps20
  go_wp2_with fail
  refine (HIS.out _ HB.out).mono ?_
  rintro e w2 ⟨rfl, hb2⟩
  have HX2 := HX.out.kept hb2
  have c0 := HX2.cell 0 rfl
  have HB2 : Hid (Below w.heap.size w w2) := below_step HB.out hb2
  clear hb2
  cases c
  · go_wp2_with fail
    go_ret
    exact ⟨ret_bool (by rw [HE.out]; rfl), HB2.out⟩
  · go_wp2_with fail
    refine (HED.out _ HB2.out).mono ?_
    rintro e w3 ⟨rfl, hb3⟩
    have HB3 : Hid (Below w.heap.size w w3) := below_step HB2.out hb3
    clear hb3
    go_wp2_with fail
    go_ret
    refine ⟨ret_bool ?_, HB3.out⟩
    rw [HE.out, Bool.true_and]
end Go.Proofs.Ytfcmhbbeohhjmaa
