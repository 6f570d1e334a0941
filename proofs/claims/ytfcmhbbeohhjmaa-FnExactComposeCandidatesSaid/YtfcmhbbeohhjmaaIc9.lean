/- The program's conditions on a link and its counts: what they answer. -/
import Derived.Test.YtfcmhbbeohhjmaaM9
import Derived.Test.YtfcmhbbeohhjmaaAp9
import Derived.Test.YtfcmhbbeohhjmaaIc2
import Derived.BigRegion
import Derived.BigQuiet
import Derived.Lib.QuietBelow
import Derived.Laws.EntriesVeiled
import Derived.Deep.Heap
namespace Go.Proofs.Ytfcmhbbeohhjmaa
set_option maxRecDepth 100000
open Go.RowKit M
set_option linter.unusedVariables false
set_option linter.unusedSimpArgs false
set_option maxRecDepth 100000

abbrev lkV (x : DLink) : Value := .agg #[.int .u8 (x.In.toNat : Int), .int .u8 (x.Out.toNat : Int)]
theorem away_any (x : DLink) (w : World) :
    Calls Try.prog 31 #[lkV x] w fun e w' => e = .returned (.bool (delK x)) ∧ Below w.heap.size w w' := by
  have HE : Hid (delK x = ((x.Out.toNat : Int) == 0)) := by unfold Hid delK; rw [Bool.eq_iff_iff]; simp
  unfold lkV
  generalize (x.In.toNat : Int) = a at *
  generalize (x.Out.toNat : Int) = b at *
  generalize delK x = r at *
  go_enter Try.func31, Try.ntmps31
  go_wp2
  go_ret
  exact ⟨ret_bool HE.out.symm, (Below.refl _ _).alloc (Nat.le_refl _) _⟩
theorem putin_any (x : DLink) (w : World) :
    Calls Try.prog 33 #[lkV x] w fun e w' => e = .returned (.bool (insK x)) ∧ Below w.heap.size w w' := by
  have HE : Hid (insK x = ((x.In.toNat : Int) == 0)) := by unfold Hid insK; rw [Bool.eq_iff_iff]; simp
  unfold lkV
  generalize (x.In.toNat : Int) = a at *
  generalize (x.Out.toNat : Int) = b at *
  generalize insK x = r at *
  go_enter Try.func33, Try.ntmps33
  go_wp2
  go_ret
  exact ⟨ret_bool HE.out.symm, (Below.refl _ _).alloc (Nat.le_refl _) _⟩
theorem kept_any (x : DLink) (w : World) :
    Calls Try.prog 54 #[lkV x] w fun e w' => e = .returned (.bool (kepK x)) ∧ Below w.heap.size w w' := by
  have HE : Hid (kepK x = (!delK x && !insK x)) := rfl
  have HD : Hid (∀ W, Calls Try.prog 31 #[lkV x] W fun e w' => e = .returned (.bool (delK x)) ∧ Below W.heap.size W w') := fun W => away_any x W
  have HI : Hid (∀ W, Calls Try.prog 33 #[lkV x] W fun e w' => e = .returned (.bool (insK x)) ∧ Below W.heap.size W w') := fun W => putin_any x W
  unfold lkV at *
  generalize (x.In.toNat : Int) = a at *
  generalize (x.Out.toNat : Int) = b at *
  generalize kepK x = r at *
  generalize delK x = d at *
  generalize insK x = i at *
  have HB : Hid (Below w.heap.size w (w.alloc (.cells #[.int .u8 a, .int .u8 b] 40))) := (Below.refl _ _).alloc (Nat.le_refl _) _
  have HX : Hid (InC (w.alloc (.cells #[.int .u8 a, .int .u8 b] 40)) w.heap.size #[.int .u8 a, .int .u8 b] 40) := heap_alloc_new _ _
  go_enter Try.func54, Try.ntmps54
  go_wp2_with fail
  refine (HD.out _).mono ?_
  rintro e w2 ⟨rfl, hb2⟩
  have HX2 := HX.out.kept hb2
  have c0 := HX2.cell 0 rfl
  have c1 := HX2.cell 1 rfl
  have HB2 : Hid (Below w.heap.size w w2) := below_step HB.out hb2
  clear hb2
  cases d
  · go_wp2_with fail
    refine (HI.out _).mono ?_
    rintro e w3 ⟨rfl, hb3⟩
    have HB3 : Hid (Below w.heap.size w w3) := below_step HB2.out hb3
    clear hb3
    go_wp2_with fail
    go_ret
    exact ⟨ret_bool (by rw [HE.out]; rfl), HB3.out⟩
  · go_wp2_with fail
    go_ret
    exact ⟨ret_bool (by rw [HE.out]; rfl), HB2.out⟩
theorem voice_any (x : DLink) (w : World) :
    Calls Try.prog 34 #[lkV x] w fun e w' => e = .returned (.bool (vchK x)) ∧ Below w.heap.size w w' := by
  have HE : Hid (vchK x = (kepK x && !((x.In.toNat : Int) == (x.Out.toNat : Int)))) := by unfold Hid vchK; congr 2
  have HD : Hid (∀ W, Calls Try.prog 54 #[lkV x] W fun e w' => e = .returned (.bool (kepK x)) ∧ Below W.heap.size W w') := fun W => kept_any x W
  unfold lkV at *
  generalize (x.In.toNat : Int) = a at *
  generalize (x.Out.toNat : Int) = b at *
  generalize vchK x = r at *
  generalize kepK x = d at *
  have HB : Hid (Below w.heap.size w (w.alloc (.cells #[.int .u8 a, .int .u8 b] 40))) := (Below.refl _ _).alloc (Nat.le_refl _) _
  have HX : Hid (InC (w.alloc (.cells #[.int .u8 a, .int .u8 b] 40)) w.heap.size #[.int .u8 a, .int .u8 b] 40) := heap_alloc_new _ _
  go_enter Try.func34, Try.ntmps34
  go_wp2_with fail
  refine (HD.out _).mono ?_
  rintro e w2 ⟨rfl, hb2⟩
  have HX2 := HX.out.kept hb2
  have c0 := HX2.cell 0 rfl
  have c1 := HX2.cell 1 rfl
  have HB2 : Hid (Below w.heap.size w w2) := below_step HB.out hb2
  clear hb2
  cases d
  · go_wp2_with fail
    go_ret
    exact ⟨ret_bool (by rw [HE.out]; rfl), HB2.out⟩
  · go_wp2_with fail
    go_ret
    refine ⟨ret_bool ?_, HB2.out⟩
    rw [HE.out, Bool.true_and]
    first | rfl | simp
/-- A condition on a link, as a function value. -/
def CondK (k : Nat) (p : DLink → Bool) : Prop :=
  (∀ args w', (callFunc k args).run Try.prog w' = .ok (.enter k args) w') ∧
  ∀ x W, Calls Try.prog k #[lkV x] W fun e w'' => e = .returned (.bool (p x)) ∧ Below W.heap.size W w''
theorem enters_of9 {P : Program} {f : FuncId} {fn : Func} {c : Code} (hf : P.funcs[f]? = some fn) (hname : (fn.name == "runtime.NumGoroutine") = false) (hb : fn.body = some c) (args : Array Value) (w : World) :
    (callFunc f args).run P w = .ok (.enter f args) w := by
  have h1 : ¬ fn.name = "runtime.NumGoroutine" := by simpa using hname
  simp [callFunc, go_sem, hf, h1, hb]
theorem cAway : CondK 31 delK := ⟨fun args w' => enters_of9 Try.func31 (by kernel_rfl) rfl args w', fun x W => away_any x W⟩
theorem cPutin : CondK 33 insK := ⟨fun args w' => enters_of9 Try.func33 (by kernel_rfl) rfl args w', fun x W => putin_any x W⟩
theorem cKept : CondK 54 kepK := ⟨fun args w' => enters_of9 Try.func54 (by kernel_rfl) rfl args w', fun x W => kept_any x W⟩
theorem cVoice : CondK 34 vchK := ⟨fun args w' => enters_of9 Try.func34 (by kernel_rfl) rfl args w', fun x W => voice_any x W⟩
set_option maxHeartbeats 4000000 in
/-- How many links of a row meet a condition. -/
theorem countLinks_any (q : Nat) (p : DLink → Bool) (hp : CondK q p) (l : List DLink) (v : Value) (F : Addr → Prop) (w : World) (hl : l.length ≤ 1048576) (hv : RowRd rLink false w v l F) :
    Calls Try.prog 29 #[v, .func (.func q) #[] #[]] w fun e w' => e = .returned (.int .i64 (cntL p l : Nat)) ∧ Below w.heap.size w w' := by
  obtain ⟨A, cap, rfl⟩ := hv.form
  have HV := Lib.hid hv
  clear hv
  have KP := Lib.hid hp.1
  have CP := Lib.hid hp.2
  clear hp
  have HX : Hid (∀ k, k < l.length → ∃ y, l[k]? = some y) := fun k hk => ⟨_, List.getElem?_eq_getElem hk⟩
  go_enter Try.func29, Try.ntmps29
  go_wp2
  go_loopw [5, 10] (fun c i wr => ∃ (k : Nat), k ≤ l.length ∧ i = .int .i64 k ∧ c = .int .i64 (cntL p (l.take k) : Nat) ∧ Below w.heap.size w wr) (fun _ i _ => l.length - (intOf i).toNat)
  case atStart => exact ⟨0, by omega, rfl, rfl, Below.refl _ _⟩
  case round =>
    obtain ⟨k, hk, rfl, rfl, hbe⟩ := hrel
    have HBE := Lib.hid hbe
    clear hbe
    have hel := cntL_le p l k
    by_cases hkl : k < l.length
    · obtain ⟨y, hy⟩ := HX.out k hkl
      obtain ⟨g, off, xs, Fk, rfl, _, hra, _, hca⟩ := (HV.out.kept HBE.out).get hy
      obtain rfl := rLink_rd hra
      rw [rLink_size] at hca
      have c0 := hca 0 _ rfl
      have c1 := hca 1 _ rfl
      simp only [Nat.add_zero] at c0
      have HEY : Hid (p y = true → cntL p (l.take (k + 1)) = cntL p (l.take k) + 1) := fun h => cntL_yes hy h
      have HEN : Hid (p y = false → cntL p (l.take (k + 1)) = cntL p (l.take k)) := fun h => cntL_no hy h
      have CY : Hid (∀ W, Calls Try.prog q #[lkV y] W fun e w'' => e = .returned (.bool (p y)) ∧ Below W.heap.size W w'') := fun W => CP.out y W
      clear hca hra hy
      unfold lkV at CY
      generalize cntL p (l.take k) = E0 at *
      generalize (y.In.toNat : Int) = a at *
      generalize (y.Out.toNat : Int) = b at *
      generalize p y = r at *
      go_wp2_with fail
      rw [KP.out, Oper.upon_enter]
      refine (CY.out _).mono ?_
      rintro e w2 ⟨rfl, hb2⟩
      have HB2 : Hid (Below w.heap.size w w2) := below_step (HBE.out.alloc HBE.out.size _) hb2
      clear hb2
      cases r
      · have HE := Lib.hid (HEN.out rfl)
        go_wp2
        go_roundw
        case rel => exact ⟨k + 1, by omega, by go_num, by rw [HE.out], HB2.out⟩
        case measure => simp [intOf]; omega
      · have HE := Lib.hid (HEY.out rfl)
        go_wp2
        go_roundw
        case rel => exact ⟨k + 1, by omega, by go_num, by rw [HE.out]; go_num, HB2.out⟩
        case measure => simp [intOf]; omega
    · obtain rfl : k = l.length := by omega
      rw [List.take_length] at *
      go_wp2
      go_ret
      exact ⟨rfl, HBE.out⟩
/-- The links of a valid candidate, none of another. -/
def valL (l : List DLink) : List DLink := if isCd l then l else []
theorem valid_any (l : List DLink) (v : Value) (F : Addr → Prop) (w : World) (hl : l.length ≤ 1048576) (hv : RowRd rLink false w v l F) :
    Calls Try.prog 30 #[.agg #[v]] w fun e w' => ∃ u, e = .returned u ∧ RowRd rLink false w' u (valL l) F ∧ Below w.heap.size w w' := by
  have HIS : Hid (∀ W, Below w.heap.size w W → Calls Try.prog 38 #[.agg #[v]] W fun e w' => e = .returned (.bool (isCd l)) ∧ Below W.heap.size W w') := fun W hW => implIsCd_any ⟨l⟩ v F W hl (hv.kept hW)
  obtain ⟨A, cap, rfl⟩ := hv.form
  have HV : Hid (∀ W, Below w.heap.size w W → RowRd rLink false W (.slice A l.length cap) l F) := fun W hW => hv.kept hW
  clear hv
  have HR : Hid (valL l = if isCd l then l else []) := rfl
  generalize isCd l = c at *
  generalize valL l = r at *
  have HB : Hid (Below w.heap.size w (w.alloc (.cells #[.slice A l.length cap] 29))) := (Below.refl _ _).alloc (Nat.le_refl _) _
  have HX : Hid (InC (w.alloc (.cells #[.slice A l.length cap] 29)) w.heap.size #[.slice A l.length cap] 29) := heap_alloc_new _ _
  go_enter Try.func30, Try.ntmps30
  go_wp2_with fail
  refine (HIS.out _ HB.out).mono ?_
  rintro e w2 ⟨rfl, hb2⟩
  have c0 := (HX.out.kept hb2).cell 0 rfl
  have HB2 : Hid (Below w.heap.size w w2) := below_step HB.out hb2
  clear hb2
  cases c
  · go_wp2_with fail
    go_ret
    exact ⟨_, rfl, by rw [HR.out]; exact RowRd.nil _ _ _, HB2.out⟩
  · go_wp2_with fail
    go_ret
    exact ⟨_, rfl, by rw [HR.out]; exact HV.out _ HB2.out, HB2.out⟩
theorem cnt_val (p : DLink → Bool) (l : List DLink) : cntL p (valL l) = cntC p l := by
  unfold valL cntC; split <;> rfl
theorem val_len (l : List DLink) : (valL l).length ≤ l.length := by
  unfold valL; split <;> simp
end Go.Proofs.Ytfcmhbbeohhjmaa
