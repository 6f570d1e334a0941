/- The program's conditions on a byte, and its marks of neighbours: what they answer. -/
import Derived.Test.YtlcjpbjnjnolfaaDoorM8
import Derived.Test.YtlcjpbjnjnolfaaDoorS2
import Derived.Test.YtlcjpbjnjnolfaaDoorSp
import Derived.Test.YtlcjpbjnjnolfaaDoorIf1
import Derived.BigQuiet
import Derived.Lib.QuietBelow
import Derived.Laws.EntriesVeiled
import Derived.Deep.Heap
namespace Go.Proofs.YtlcjpbjnjnolfaaDoor
set_option maxRecDepth 100000
open Go.RowKit Go.Sort M

theorem isAnything_any (x : Int) (w : World) :
    Calls Tryd.prog 31 #[.int .u8 x] w fun e w' => e = .returned (.bool (anyB x)) ∧ w = w' := by
  go_enter Tryd.func31, Tryd.ntmps31
  go_wp2
  go_ret
  exact ⟨rfl, rfl⟩
theorem isFormEdge_any (x : Int) (w : World) :
    Calls Tryd.prog 33 #[.int .u8 x] w fun e w' => e = .returned (.bool (edgB x)) ∧ w = w' := by
  have HE : Hid (edgB x = (x == 0)) := rfl
  go_enter Tryd.func33, Tryd.ntmps33
  go_wp2
  go_ret
  exact ⟨ret_bool HE.out.symm, rfl⟩
theorem isVowel_any (x : Int) (w : World) (h0 : 0 ≤ x) (h1 : x < 256) (hT : FeatTab w) :
    Calls Tryd.prog 28 #[.int .u8 x] w fun e w' => e = .returned (.bool (vowB x)) ∧ w = w' := by
  have HT := Lib.hid hT
  have H0 := Lib.hid h0
  have H1 := Lib.hid h1
  clear hT h0 h1
  go_enter Tryd.func28, Tryd.ntmps28
  go_wp2_with fail
  refine (implHas_any x 0 _ H0.out H1.out HT.out).mono ?_
  rintro e w1 ⟨rfl, rfl⟩
  go_wp2
  go_ret
  exact ⟨rfl, rfl⟩
theorem isNasal_any (x : Int) (w : World) (h0 : 0 ≤ x) (h1 : x < 256) (hT : FeatTab w) :
    Calls Tryd.prog 36 #[.int .u8 x] w fun e w' => e = .returned (.bool (nasB x)) ∧ w = w' := by
  have HT := Lib.hid hT
  have H0 := Lib.hid h0
  have H1 := Lib.hid h1
  clear hT h0 h1
  go_enter Tryd.func36, Tryd.ntmps36
  go_wp2_with fail
  refine (implHas_any x 2 _ H0.out H1.out HT.out).mono ?_
  rintro e w1 ⟨rfl, rfl⟩
  go_wp2
  go_ret
  exact ⟨rfl, rfl⟩
theorem isCons_any (x : Int) (w : World) (h0 : 0 ≤ x) (h1 : x < 256) (hT : FeatTab w) :
    Calls Tryd.prog 27 #[.int .u8 x] w fun e w' => e = .returned (.bool (consB x)) ∧ w = w' := by
  have HT := Lib.hid hT
  have H0 := Lib.hid h0
  have H1 := Lib.hid h1
  have HE : Hid (consB x = (isSnd x && !vowB x)) := rfl
  clear hT h0 h1
  go_enter Tryd.func27, Tryd.ntmps27
  go_wp2_with (first | (go_at_call 41; refine (implIsSound_any _ _ H0.out H1.out).mono ?_; rintro e w1 ⟨rfl, rfl⟩) | (go_at_call 28; refine (isVowel_any _ _ H0.out H1.out HT.out).mono ?_; rintro e w1 ⟨rfl, rfl⟩))
  all_goals
    go_ret
    refine ⟨ret_bool ?_, rfl⟩
    rw [HE.out]
    simp_all
theorem isVob_any (x : Int) (w : World) (h0 : 0 ≤ x) (h1 : x < 256) (hT : FeatTab w) :
    Calls Tryd.prog 32 #[.int .u8 x] w fun e w' => e = .returned (.bool (vobB x)) ∧ w = w' := by
  have HT := Lib.hid hT
  have H0 := Lib.hid h0
  have H1 := Lib.hid h1
  have HE : Hid (vobB x = (isObs x && hasF x 1)) := rfl
  clear hT h0 h1
  go_enter Tryd.func32, Tryd.ntmps32
  go_wp2_with (first | (go_at_call 44; refine (implIsObs_any _ _ H0.out H1.out).mono ?_; rintro e w1 ⟨rfl, rfl⟩) | (go_at_call 42; refine (implHas_any _ _ _ H0.out H1.out HT.out).mono ?_; rintro e w1 ⟨rfl, rfl⟩))
  all_goals
    go_ret
    refine ⟨ret_bool ?_, rfl⟩
    rw [HE.out]
    simp_all
theorem isVls_any (x : Int) (w : World) (h0 : 0 ≤ x) (h1 : x < 256) (hT : FeatTab w) :
    Calls Tryd.prog 37 #[.int .u8 x] w fun e w' => e = .returned (.bool (vlsB x)) ∧ w = w' := by
  have HT := Lib.hid hT
  have H0 := Lib.hid h0
  have H1 := Lib.hid h1
  have HE : Hid (vlsB x = (isObs x && !hasF x 1)) := rfl
  clear hT h0 h1
  go_enter Tryd.func37, Tryd.ntmps37
  go_wp2_with (first | (go_at_call 44; refine (implIsObs_any _ _ H0.out H1.out).mono ?_; rintro e w1 ⟨rfl, rfl⟩) | (go_at_call 42; refine (implHas_any _ _ _ H0.out H1.out HT.out).mono ?_; rintro e w1 ⟨rfl, rfl⟩))
  all_goals
    go_ret
    refine ⟨ret_bool ?_, rfl⟩
    rw [HE.out]
    simp_all
theorem enters_of {P : Program} {f : FuncId} {fn : Func} {c : Code} (hf : P.funcs[f]? = some fn) (hname : (fn.name == "runtime.NumGoroutine") = false) (hb : fn.body = some c) (args : Array Value) (w : World) :
    (callFunc f args).run P w = .ok (.enter f args) w := by
  have h1 : ¬ fn.name = "runtime.NumGoroutine" := by simpa using hname
  simp [callFunc, go_sem, hf, h1, hb]
/-- A condition: from the world w on, called at a byte, it answers P and changes nothing. -/
def Cond8 (k : Nat) (c : Array Value) (P : Int → Bool) (w : World) : Prop :=
  (∀ args w', (callFunc k args).run Tryd.prog w' = .ok (.enter k args) w') ∧
  ∀ x w', 0 ≤ x → x < 256 → Below w.heap.size w w' → Calls Tryd.prog k (#[.int .u8 x] ++ c) w' fun e w'' => e = .returned (.bool (P x)) ∧ w' = w''
theorem Cond8.below {k : Nat} {c : Array Value} {P : Int → Bool} {w w' : World} (h : Cond8 k c P w) (hb : Below w.heap.size w w') : Cond8 k c P w' :=
  ⟨h.1, fun x w2 h0 h1 hb2 => h.2 x w2 h0 h1 (hb.trans (hb2.mono hb.size))⟩
theorem notCl_any (k : Nat) (c : Array Value) (P : Int → Bool) (a : Nat) (w : World) (hp : Cond8 k c P w) (ha : w.cell? ⟨a, 0, none⟩ = some (.func (.func k) #[] c)) :
    Cond8 40 #[.pointer (some ⟨a, 0, none⟩)] (fun x => !P x) w := by
  refine ⟨fun args w' => enters_of Tryd.func40 (by kernel_rfl) rfl args w', ?_⟩
  intro x w' h0 h1 hb
  have ha' : w'.cell? ⟨a, 0, none⟩ = some (.func (.func k) #[] c) := (hb.cell (block_lt_of_cell ha)).trans ha
  have HC := Lib.hid (hp.2 x w' h0 h1 hb)
  have HK := Lib.hid hp.1
  clear ha hp h0 h1 hb
  show Calls Tryd.prog 40 #[.int .u8 x, .pointer (some ⟨a, 0, none⟩)] w' _
  go_enter Tryd.func40, Tryd.ntmps40
  go_wp2_with fail
  rw [HK.out, Oper.upon_enter]
  refine HC.out.mono ?_
  rintro e w2 ⟨rfl, rfl⟩
  go_wp2
  go_ret
  exact ⟨rfl, rfl⟩
/-- The condition that is no closure. -/
theorem cond_plain (k : Nat) (P : Int → Bool) (w : World) (hk : ∀ args w', (callFunc k args).run Tryd.prog w' = .ok (.enter k args) w') (h : ∀ x w', 0 ≤ x → x < 256 → Below w.heap.size w w' → Calls Tryd.prog k #[.int .u8 x] w' fun e w'' => e = .returned (.bool (P x)) ∧ w' = w'') : Cond8 k #[] P w :=
  ⟨hk, fun x w' h0 h1 hb => by
    rw [Array.append_empty]
    exact h x w' h0 h1 hb⟩
theorem cAny (w : World) : Cond8 31 #[] anyB w := cond_plain _ _ _ (fun args w' => enters_of Tryd.func31 (by kernel_rfl) rfl args w') fun x w' _ _ _ => isAnything_any x w'
theorem cEdg (w : World) : Cond8 33 #[] edgB w := cond_plain _ _ _ (fun args w' => enters_of Tryd.func33 (by kernel_rfl) rfl args w') fun x w' _ _ _ => isFormEdge_any x w'
theorem cVow (w : World) (hT : FeatTab w) : Cond8 28 #[] vowB w := cond_plain _ _ _ (fun args w' => enters_of Tryd.func28 (by kernel_rfl) rfl args w') fun x w' h0 h1 hb => isVowel_any x w' h0 h1 (feat_below hT hb)
theorem cNas (w : World) (hT : FeatTab w) : Cond8 36 #[] nasB w := cond_plain _ _ _ (fun args w' => enters_of Tryd.func36 (by kernel_rfl) rfl args w') fun x w' h0 h1 hb => isNasal_any x w' h0 h1 (feat_below hT hb)
theorem cCons (w : World) (hT : FeatTab w) : Cond8 27 #[] consB w := cond_plain _ _ _ (fun args w' => enters_of Tryd.func27 (by kernel_rfl) rfl args w') fun x w' h0 h1 hb => isCons_any x w' h0 h1 (feat_below hT hb)
theorem cVob (w : World) (hT : FeatTab w) : Cond8 32 #[] vobB w := cond_plain _ _ _ (fun args w' => enters_of Tryd.func32 (by kernel_rfl) rfl args w') fun x w' h0 h1 hb => isVob_any x w' h0 h1 (feat_below hT hb)
theorem cVls (w : World) (hT : FeatTab w) : Cond8 37 #[] vlsB w := cond_plain _ _ _ (fun args w' => enters_of Tryd.func37 (by kernel_rfl) rfl args w') fun x w' h0 h1 hb => isVls_any x w' h0 h1 (feat_below hT hb)
theorem cell_box (w : World) (v : Value) (t : TypeId) : (w.alloc (.cells #[v] t)).cell? ⟨w.heap.size, 0, none⟩ = some v := by
  have h := Deep.blk_alloc_new w (.cells #[v] t)
  unfold World.cell?
  rw [h]
  rfl
theorem cell_two (w : World) (u v : Value) (t : TypeId) : (w.alloc (.cells #[u, v] t)).cell? ⟨w.heap.size, 0, none⟩ = some u ∧ (w.alloc (.cells #[u, v] t)).cell? ⟨w.heap.size, 1, none⟩ = some v := by
  have h := Deep.blk_alloc_new w (.cells #[u, v] t)
  constructor <;> (unfold World.cell?; rw [h]; rfl)
/-- 'not(holds)': the negated condition, its cell laid. -/
theorem not_any (k : Nat) (P : Int → Bool) (w : World) (hp : Cond8 k #[] P w) :
    Calls Tryd.prog 26 #[.func (.func k) #[] #[]] w fun e w' => ∃ a : Nat, e = .returned (.func (.func 40) #[] #[.pointer (some ⟨a, 0, none⟩)]) ∧ Below w.heap.size w w' ∧ Cond8 40 #[.pointer (some ⟨a, 0, none⟩)] (fun x => !P x) w' := by
  have HP := Lib.hid hp
  clear hp
  go_enter Tryd.func26, Tryd.ntmps26
  go_wp2
  go_ret
  have hb : Below w.heap.size w (w.alloc (.cells #[.func (.func k) #[] #[]] 25)) := (Below.refl _ _).alloc (Nat.le_refl _) _
  exact ⟨w.heap.size, rfl, hb, notCl_any k #[] P w.heap.size _ (HP.out.below hb) (cell_box w _ _)⟩
/-- Two conditions on two bytes. -/
theorem isOn_any (k1 k2 : Nat) (c1 c2 : Array Value) (P Q : Int → Bool) (x y : Int) (w : World) (hp : Cond8 k1 c1 P w) (hq : Cond8 k2 c2 Q w) (hx0 : 0 ≤ x) (hx1 : x < 256) (hy0 : 0 ≤ y) (hy1 : y < 256) :
    Calls Tryd.prog 43 #[.agg #[.func (.func k1) #[] c1, .func (.func k2) #[] c2], .int .u8 x, .int .u8 y] w fun e w' => e = .returned (.bool (P x && Q y)) ∧ Below w.heap.size w w' := by
  have hb : Below w.heap.size w (w.alloc (.cells #[.func (.func k1) #[] c1, .func (.func k2) #[] c2] 28)) := (Below.refl _ _).alloc (Nat.le_refl _) _
  have HB := Lib.hid hb
  have KP := Lib.hid hp.1
  have KQ := Lib.hid hq.1
  have CP := Lib.hid (hp.2 x _ hx0 hx1 hb)
  have CQ := Lib.hid (hq.2 y _ hy0 hy1 hb)
  clear hp hq hb hx0 hx1 hy0 hy1
  go_enter Tryd.func43, Tryd.ntmps43
  go_wp2_with fail
  rw [KP.out, Oper.upon_enter]
  refine CP.out.mono ?_
  rintro e w2 ⟨rfl, rfl⟩
  go_wp2_with fail
  · rw [KQ.out, Oper.upon_enter]
    refine CQ.out.mono ?_
    rintro e w2 ⟨rfl, rfl⟩
    go_wp2
    have hy : P x = true := by assumption
    go_ret
    exact ⟨ret_bool (by rw [hy, Bool.true_and]), HB.out⟩
  · have hy : P x = false := by
      cases h : P x with
      | true => exact absurd h (by assumption)
      | false => rfl
    go_ret
    exact ⟨ret_bool (by rw [hy, Bool.false_and]), HB.out⟩
theorem cell_kept (w w' : World) (hb : Below w.heap.size w w') {p : Addr} {v : Value} (h : w.cell? p = some v) : w'.cell? p = some v := (hb.cell (block_lt_of_cell h)).trans h
set_option maxHeartbeats 1000000 in
/-- The count of the neighbours that meet both. -/
theorem countIn_any (k1 k2 : Nat) (c1 c2 : Array Value) (P Q : Int → Bool) (s : ByteArray) (w : World) (hs : s.size ≤ maxLen) (hp : Cond8 k1 c1 P w) (hq : Cond8 k2 c2 Q w) :
    Calls Tryd.prog 29 #[.agg #[.func (.func k1) #[] c1, .func (.func k2) #[] c2], .string s] w fun e w' => e = .returned (.int .i64 (mkC P Q s)) ∧ Below w.heap.size w w' := by
  have HM := Lib.hid hs
  generalize hW : w.alloc (.cells #[.func (.func k1) #[] c1, .func (.func k2) #[] c2] 28) = W
  have hb : Below w.heap.size w W := by rw [← hW]; exact (Below.refl _ _).alloc (Nat.le_refl _) _
  by_cases hf : isFm s = true
  · have h8 := isFm_size hf
    have HE := Lib.hid (mkC_in P Q s hf)
    have HC := Lib.hid (cell_two w (.func (.func k1) #[] c1) (.func (.func k2) #[] c2) 28)
    rw [hW] at HC
    have HB := Lib.hid hb
    have HP := Lib.hid (hp.below hb)
    have HQ := Lib.hid (hq.below hb)
    clear hp hq hb hs
    go_enter Tryd.func29, Tryd.ntmps29
    go_wp2_with fail
    refine (implFmS_any s _ HM.out).mono ?_
    rintro e w2 ⟨rfl, rfl⟩
    rw [hf]
    go_wp2
    clear hW
    go_loopw [5, 6, 13] (fun n l i wr => ∃ (j : Nat), j ≤ s.size ∧ i = .int .i64 j ∧ n = .int .i64 (cntP (mkAt P Q s) j) ∧ l = .int .u8 (eB s j) ∧ Below W.heap.size W wr) (fun _ _ i _ => s.size - (intOf i).toNat)
    case atStart => exact ⟨0, by omega, rfl, rfl, rfl, Below.refl _ _⟩
    case round =>
      obtain ⟨j, hj, rfl, rfl, rfl, hbe⟩ := hrel
      have hcl := cntP_le (mkAt P Q s) j
      have HBE := Lib.hid hbe
      have hc0 := cell_kept _ _ hbe HC.out.1
      have hc1 := cell_kept _ _ hbe HC.out.2
      clear hbe
      by_cases hlt : j < s.size
      · have hB := bAt_in s j hlt
        have hr0 := fun d os => cell_regrown hc0 d os
        have hr1 := fun d os => cell_regrown hc1 d os
        have cI : ∀ d os, Calls Tryd.prog 43 #[.agg #[.func (.func k1) #[] c1, .func (.func k2) #[] c2], .int .u8 (eB s j), .int .u8 (bAt s j)] (grow (redrawn wr d) os) fun e w'' => e = .returned (.bool (mkAt P Q s j)) ∧ ∃ p : Regrown, w'' = grow (redrawn wr p.d) p.os :=
          fun d os => Calls.regrown_of (isOn_any k1 k2 c1 c2 P Q (eB s j) (bAt s j) _ ((HP.out.below HBE.out).below (below_regrown wr d os)) ((HQ.out.below HBE.out).below (below_regrown wr d os)) (eB_range s j).1 (eB_range s j).2 (bAt_range s j).1 (bAt_range s j).2)
        go_wp2
        refine wp_region_quiet_below (by kernel_rfl) (by kernel_rfl) ?_
        repeat (quiet_step (first | exact cI _ _))
        refine wpQuiet_nil ?_
        intro _ hw'
        obtain ⟨⟨dq, osq⟩, hw''⟩ := hw'
        subst hw''
        have hbq := Lib.hid (HBE.out.trans ((below_regrown wr dq osq).mono HBE.out.size))
        go_wp2
        · have hy : mkAt P Q s j = true := by assumption
          go_roundw
          case rel => exact ⟨j + 1, by omega, by go_num, by rw [cntP_yes _ j hy]; go_num, rfl, hbq.out⟩
          case measure => simp [intOf]; omega
        · have hy : mkAt P Q s j = false := by assumption
          go_roundw
          case rel => exact ⟨j + 1, by omega, by go_num, by rw [cntP_no _ j hy], rfl, hbq.out⟩
          case measure => simp [intOf]; omega
      · obtain rfl : j = s.size := by omega
        have hmk : Hid (mkAt P Q s s.size = (P (eB s s.size) && Q 0)) := by
          unfold Hid mkAt
          rw [eB_succ, bAt_out s s.size (Nat.le_refl _)]
        go_wp2_with fail
        refine (isOn_any k1 k2 c1 c2 P Q (eB s s.size) 0 wr (HP.out.below HBE.out) (HQ.out.below HBE.out) (eB_range s s.size).1 (eB_range s s.size).2 (by decide) (by decide)).mono ?_
        rintro e w2 ⟨rfl, hb2⟩
        have HB2 := Lib.hid (HBE.out.trans (hb2.mono HBE.out.size))
        rw [← hmk.out]
        clear hb2
        go_wp2
        · have hy : mkAt P Q s s.size = true := by assumption
          go_ret
          exact ⟨by rw [HE.out, cntP_yes _ _ hy]; go_num, HB.out.trans (HB2.out.mono HB.out.size)⟩
        · have hy : mkAt P Q s s.size = false := by assumption
          go_ret
          exact ⟨by rw [HE.out, cntP_no _ _ hy]; rfl, HB.out.trans (HB2.out.mono HB.out.size)⟩
  · have hf : isFm s = false := by simpa using hf
    have HE := Lib.hid (mkC_no P Q s hf)
    have HB := Lib.hid hb
    clear hp hq hb
    go_enter Tryd.func29, Tryd.ntmps29
    go_wp2_with fail
    refine (implFmS_any s _ HM.out).mono ?_
    rintro e w2 ⟨rfl, rfl⟩
    rw [hf]
    go_wp2
    go_ret
    exact ⟨by rw [HE.out]; rfl, HB.out⟩
end Go.Proofs.YtlcjpbjnjnolfaaDoor
