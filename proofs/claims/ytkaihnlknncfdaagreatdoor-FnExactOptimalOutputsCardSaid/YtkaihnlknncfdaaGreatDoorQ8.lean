/- Merged: Sp If1 Im8 Ic8 Ic2 Ic9 Id9 Ib9 Ic5. -/
import Derived.Test.YtkaihnlknncfdaaGreatDoorQ7
import Derived.Test.YtkaihnlknncfdaaGreatDoorQ3
import Derived.BigQuiet
import Derived.Lib.QuietBelow
import Derived.Laws.EntriesVeiled
import Derived.Deep.Heap
import Derived.Test.YtkaihnlknncfdaaGreatDoorQ4
import Derived.BigRegion
/- The program's IsObstruent: what it answers. -/
namespace Go.Proofs.YtkaihnlknncfdaaGreatDoor
set_option maxRecDepth 100000
open Go.RowKit

theorem implIsObs_any (x : Int) (w : World) (h0 : 0 ≤ x) (h1 : x < 256) :
    Calls Tryz.prog 184 #[.int .u8 x] w fun e w' => e = .returned (.bool (isObs x)) ∧ w = w' := by
  have H := Lib.hid (obs_index x h0 h1)
  clear h0 h1
  go_enter Tryz.func184, Tryz.ntmps184
  go_wp2_with fail
  refine (idxByte _ _ _).mono ?_
  rintro e w1 ⟨rfl, rfl⟩
  go_wp2
  go_ret
  exact ⟨ret_bool H.out, rfl⟩
end Go.Proofs.YtkaihnlknncfdaaGreatDoor

/- The program's IsForm: what it answers. -/
namespace Go.Proofs.YtkaihnlknncfdaaGreatDoor
set_option maxRecDepth 100000
open Go.RowKit M

theorem byte_in (b : UInt8) : 0 ≤ (b.toNat : Int) ∧ (b.toNat : Int) < 256 := ⟨by omega, by have := b.toNat_lt; omega⟩
theorem implFmS_any (s : ByteArray) (w : World) (hs : s.size ≤ maxLen) :
    Calls Tryz.prog 89 #[.string s] w fun e w' => e = .returned (.bool (isFm s)) ∧ w = w' := by
  unfold maxLen at hs
  by_cases h8 : s.size ≤ 8
  · have h9 : ¬ (8 : Int) < (s.size : Int) := by omega
    go_enter Tryz.func89, Tryz.ntmps89
    go_wp2
    go_loop [9] (fun i => ∃ (j : Nat), j ≤ s.size ∧ i = .int .i64 j ∧ Hid (∀ k, (hk : k < s.size) → k < j → isSnd (s[k].toNat : Int) = true)) (fun i => s.size - (intOf i).toNat)
    case atStart => exact ⟨0, by omega, rfl, fun k _ hk => by omega⟩
    case round =>
      obtain ⟨j, hj, rfl, hall⟩ := hrel
      by_cases hlt : j < s.size
      · go_wp2_with fail
        refine (implIsSound_any _ _ (byte_in _).1 (byte_in _).2).mono ?_
        rintro e w2 ⟨rfl, rfl⟩
        go_wp2
        · have hn : isSnd (s[j].toNat : Int) = false := of_not_true (by assumption)
          go_ret
          exact ⟨ret_bool (by unfold isFm; rw [l2S_not j hlt hn, Bool.false_and]), rfl⟩
        · have hn : isSnd (s[j].toNat : Int) = true := of_not_false (by assumption)
          go_round
          case rel =>
            refine ⟨j + 1, by omega, by go_num, fun k hk hkj => ?_⟩
            by_cases hkj2 : k = j
            · subst hkj2; exact hn
            · exact hall.out k hk (by omega)
          case measure => simp [intOf]; omega
      · obtain rfl : j = s.size := by omega
        have HO : Hid (isFm s = true) := by
          unfold Hid isFm
          rw [l2S_all fun i hi => hall.out i hi hi]
          simp; omega
        go_wp2
        go_ret
        exact ⟨ret_bool HO.out.symm, rfl⟩
  · have h9 : (8 : Int) < (s.size : Int) := by omega
    have HO : Hid (isFm s = false) := by
      unfold Hid isFm
      have : decide ((s.size : Int) ≤ 8) = false := by simp; omega
      rw [this, Bool.and_false]
    go_enter Tryz.func89, Tryz.ntmps89
    go_wp2
    go_ret
    exact ⟨ret_bool HO.out.symm, rfl⟩
theorem implFm_any (s : ByteArray) (w : World) (hs : s.size ≤ maxLen) :
    Calls Tryz.prog 89 #[.string s] w fun e w' => e = .returned (.bool (isFm s)) ∧ Below w.heap.size w w' :=
  (implFmS_any s w hs).mono fun _ _ h => ⟨h.1, h.2 ▸ Below.refl _ _⟩
end Go.Proofs.YtkaihnlknncfdaaGreatDoor

/- The program's conditions on a byte, and its marks of neighbours: what they answer. -/
namespace Go.Proofs.YtkaihnlknncfdaaGreatDoor
set_option maxRecDepth 100000
open Go.RowKit Go.Sort M

theorem isAnything_any (x : Int) (w : World) :
    Calls Tryz.prog 165 #[.int .u8 x] w fun e w' => e = .returned (.bool (anyB x)) ∧ w = w' := by
  go_enter Tryz.func165, Tryz.ntmps165
  go_wp2
  go_ret
  exact ⟨rfl, rfl⟩
theorem isFormEdge_any (x : Int) (w : World) :
    Calls Tryz.prog 167 #[.int .u8 x] w fun e w' => e = .returned (.bool (edgB x)) ∧ w = w' := by
  have HE : Hid (edgB x = (x == 0)) := rfl
  go_enter Tryz.func167, Tryz.ntmps167
  go_wp2
  go_ret
  exact ⟨ret_bool HE.out.symm, rfl⟩
theorem isVowel_any (x : Int) (w : World) (h0 : 0 ≤ x) (h1 : x < 256) (hT : FeatTab w) :
    Calls Tryz.prog 163 #[.int .u8 x] w fun e w' => e = .returned (.bool (vowB x)) ∧ w = w' := by
  have HT := Lib.hid hT
  have H0 := Lib.hid h0
  have H1 := Lib.hid h1
  clear hT h0 h1
  go_enter Tryz.func163, Tryz.ntmps163
  go_wp2_with fail
  refine (implHas_any x 0 _ H0.out H1.out HT.out).mono ?_
  rintro e w1 ⟨rfl, rfl⟩
  go_wp2
  go_ret
  exact ⟨rfl, rfl⟩
theorem isNasal_any (x : Int) (w : World) (h0 : 0 ≤ x) (h1 : x < 256) (hT : FeatTab w) :
    Calls Tryz.prog 168 #[.int .u8 x] w fun e w' => e = .returned (.bool (nasB x)) ∧ w = w' := by
  have HT := Lib.hid hT
  have H0 := Lib.hid h0
  have H1 := Lib.hid h1
  clear hT h0 h1
  go_enter Tryz.func168, Tryz.ntmps168
  go_wp2_with fail
  refine (implHas_any x 2 _ H0.out H1.out HT.out).mono ?_
  rintro e w1 ⟨rfl, rfl⟩
  go_wp2
  go_ret
  exact ⟨rfl, rfl⟩
theorem isCons_any (x : Int) (w : World) (h0 : 0 ≤ x) (h1 : x < 256) (hT : FeatTab w) :
    Calls Tryz.prog 162 #[.int .u8 x] w fun e w' => e = .returned (.bool (consB x)) ∧ w = w' := by
  have HT := Lib.hid hT
  have H0 := Lib.hid h0
  have H1 := Lib.hid h1
  have HE : Hid (consB x = (isSnd x && !vowB x)) := rfl
  clear hT h0 h1
  go_enter Tryz.func162, Tryz.ntmps162
  go_wp2_with (first | (go_at_call 132; refine (implIsSound_any _ _ H0.out H1.out).mono ?_; rintro e w1 ⟨rfl, rfl⟩) | (go_at_call 163; refine (isVowel_any _ _ H0.out H1.out HT.out).mono ?_; rintro e w1 ⟨rfl, rfl⟩))
  all_goals
    go_ret
    refine ⟨ret_bool ?_, rfl⟩
    rw [HE.out]
    simp_all
theorem isVob_any (x : Int) (w : World) (h0 : 0 ≤ x) (h1 : x < 256) (hT : FeatTab w) :
    Calls Tryz.prog 166 #[.int .u8 x] w fun e w' => e = .returned (.bool (vobB x)) ∧ w = w' := by
  have HT := Lib.hid hT
  have H0 := Lib.hid h0
  have H1 := Lib.hid h1
  have HE : Hid (vobB x = (isObs x && hasF x 1)) := rfl
  clear hT h0 h1
  go_enter Tryz.func166, Tryz.ntmps166
  go_wp2_with (first | (go_at_call 184; refine (implIsObs_any _ _ H0.out H1.out).mono ?_; rintro e w1 ⟨rfl, rfl⟩) | (go_at_call 182; refine (implHas_any _ _ _ H0.out H1.out HT.out).mono ?_; rintro e w1 ⟨rfl, rfl⟩))
  all_goals
    go_ret
    refine ⟨ret_bool ?_, rfl⟩
    rw [HE.out]
    simp_all
theorem isVls_any (x : Int) (w : World) (h0 : 0 ≤ x) (h1 : x < 256) (hT : FeatTab w) :
    Calls Tryz.prog 169 #[.int .u8 x] w fun e w' => e = .returned (.bool (vlsB x)) ∧ w = w' := by
  have HT := Lib.hid hT
  have H0 := Lib.hid h0
  have H1 := Lib.hid h1
  have HE : Hid (vlsB x = (isObs x && !hasF x 1)) := rfl
  clear hT h0 h1
  go_enter Tryz.func169, Tryz.ntmps169
  go_wp2_with (first | (go_at_call 184; refine (implIsObs_any _ _ H0.out H1.out).mono ?_; rintro e w1 ⟨rfl, rfl⟩) | (go_at_call 182; refine (implHas_any _ _ _ H0.out H1.out HT.out).mono ?_; rintro e w1 ⟨rfl, rfl⟩))
  all_goals
    go_ret
    refine ⟨ret_bool ?_, rfl⟩
    rw [HE.out]
    simp_all
theorem enters_of {P : Program} {f : FuncId} {fn : Func} {c : Code} (hf : P.funcs[f]? = some fn) (hname : (fn.name == "runtime.NumGoroutine") = false) (hb : fn.body = some c) (args : Array Value) (w : World) :
    (callFunc f args).run P w = .ok (.enter f args) w := by
  have h1 : ¬ fn.name = "runtime.NumGoroutine" := by simpa using hname
  simp [callFunc, go_sem, hf, h1, hb]
/-- A condition: from the world w on, called at a byte, it answers P and changes nothing. -/
def Cond8 (k : Nat) (c : Array Value) (P : Int → Bool) (w : World) : Prop :=
  (∀ args w', (callFunc k args).run Tryz.prog w' = .ok (.enter k args) w') ∧
  ∀ x w', 0 ≤ x → x < 256 → Below w.heap.size w w' → Calls Tryz.prog k (#[.int .u8 x] ++ c) w' fun e w'' => e = .returned (.bool (P x)) ∧ w' = w''
theorem Cond8.below {k : Nat} {c : Array Value} {P : Int → Bool} {w w' : World} (h : Cond8 k c P w) (hb : Below w.heap.size w w') : Cond8 k c P w' :=
  ⟨h.1, fun x w2 h0 h1 hb2 => h.2 x w2 h0 h1 (hb.trans (hb2.mono hb.size))⟩
theorem notCl_any (k : Nat) (c : Array Value) (P : Int → Bool) (a : Nat) (w : World) (hp : Cond8 k c P w) (ha : w.cell? ⟨a, 0, none⟩ = some (.func (.func k) #[] c)) :
    Cond8 181 #[.pointer (some ⟨a, 0, none⟩)] (fun x => !P x) w := by
  refine ⟨fun args w' => enters_of Tryz.func181 (by kernel_rfl) rfl args w', ?_⟩
  intro x w' h0 h1 hb
  have ha' : w'.cell? ⟨a, 0, none⟩ = some (.func (.func k) #[] c) := (hb.cell (block_lt_of_cell ha)).trans ha
  have HC := Lib.hid (hp.2 x w' h0 h1 hb)
  have HK := Lib.hid hp.1
  clear ha hp h0 h1 hb
  show Calls Tryz.prog 181 #[.int .u8 x, .pointer (some ⟨a, 0, none⟩)] w' _
  go_enter Tryz.func181, Tryz.ntmps181
  go_wp2_with fail
  rw [HK.out, Oper.upon_enter]
  refine HC.out.mono ?_
  rintro e w2 ⟨rfl, rfl⟩
  go_wp2
  go_ret
  exact ⟨rfl, rfl⟩
/-- The condition that is no closure. -/
theorem cond_plain (k : Nat) (P : Int → Bool) (w : World) (hk : ∀ args w', (callFunc k args).run Tryz.prog w' = .ok (.enter k args) w') (h : ∀ x w', 0 ≤ x → x < 256 → Below w.heap.size w w' → Calls Tryz.prog k #[.int .u8 x] w' fun e w'' => e = .returned (.bool (P x)) ∧ w' = w'') : Cond8 k #[] P w :=
  ⟨hk, fun x w' h0 h1 hb => by
    rw [Array.append_empty]
    exact h x w' h0 h1 hb⟩
theorem cAny (w : World) : Cond8 165 #[] anyB w := cond_plain _ _ _ (fun args w' => enters_of Tryz.func165 (by kernel_rfl) rfl args w') fun x w' _ _ _ => isAnything_any x w'
theorem cEdg (w : World) : Cond8 167 #[] edgB w := cond_plain _ _ _ (fun args w' => enters_of Tryz.func167 (by kernel_rfl) rfl args w') fun x w' _ _ _ => isFormEdge_any x w'
theorem cVow (w : World) (hT : FeatTab w) : Cond8 163 #[] vowB w := cond_plain _ _ _ (fun args w' => enters_of Tryz.func163 (by kernel_rfl) rfl args w') fun x w' h0 h1 hb => isVowel_any x w' h0 h1 (feat_below hT hb)
theorem cNas (w : World) (hT : FeatTab w) : Cond8 168 #[] nasB w := cond_plain _ _ _ (fun args w' => enters_of Tryz.func168 (by kernel_rfl) rfl args w') fun x w' h0 h1 hb => isNasal_any x w' h0 h1 (feat_below hT hb)
theorem cCons (w : World) (hT : FeatTab w) : Cond8 162 #[] consB w := cond_plain _ _ _ (fun args w' => enters_of Tryz.func162 (by kernel_rfl) rfl args w') fun x w' h0 h1 hb => isCons_any x w' h0 h1 (feat_below hT hb)
theorem cVob (w : World) (hT : FeatTab w) : Cond8 166 #[] vobB w := cond_plain _ _ _ (fun args w' => enters_of Tryz.func166 (by kernel_rfl) rfl args w') fun x w' h0 h1 hb => isVob_any x w' h0 h1 (feat_below hT hb)
theorem cVls (w : World) (hT : FeatTab w) : Cond8 169 #[] vlsB w := cond_plain _ _ _ (fun args w' => enters_of Tryz.func169 (by kernel_rfl) rfl args w') fun x w' h0 h1 hb => isVls_any x w' h0 h1 (feat_below hT hb)
theorem cell_box (w : World) (v : Value) (t : TypeId) : (w.alloc (.cells #[v] t)).cell? ⟨w.heap.size, 0, none⟩ = some v := by
  have h := Deep.blk_alloc_new w (.cells #[v] t)
  unfold World.cell?
  rw [h]
  rfl
theorem cell_two (w : World) (u v : Value) (t : TypeId) : (w.alloc (.cells #[u, v] t)).cell? ⟨w.heap.size, 0, none⟩ = some u ∧ (w.alloc (.cells #[u, v] t)).cell? ⟨w.heap.size, 1, none⟩ = some v := by
  have h := Deep.blk_alloc_new w (.cells #[u, v] t)
  constructor <;> (unfold World.cell?; rw [h]; rfl)
/-- 'not(holds)': the negated condition, its cell laid. -/
theorem not_any (k : Nat) (P : Int → Bool) (w : World) (hp : Cond8 k #[] P w) :
    Calls Tryz.prog 161 #[.func (.func k) #[] #[]] w fun e w' => ∃ a : Nat, e = .returned (.func (.func 181) #[] #[.pointer (some ⟨a, 0, none⟩)]) ∧ Below w.heap.size w w' ∧ Cond8 181 #[.pointer (some ⟨a, 0, none⟩)] (fun x => !P x) w' := by
  have HP := Lib.hid hp
  clear hp
  go_enter Tryz.func161, Tryz.ntmps161
  go_wp2
  go_ret
  have hb : Below w.heap.size w (w.alloc (.cells #[.func (.func k) #[] #[]] 121)) := (Below.refl _ _).alloc (Nat.le_refl _) _
  exact ⟨w.heap.size, rfl, hb, notCl_any k #[] P w.heap.size _ (HP.out.below hb) (cell_box w _ _)⟩
/-- Two conditions on two bytes. -/
theorem isOn_any (k1 k2 : Nat) (c1 c2 : Array Value) (P Q : Int → Bool) (x y : Int) (w : World) (hp : Cond8 k1 c1 P w) (hq : Cond8 k2 c2 Q w) (hx0 : 0 ≤ x) (hx1 : x < 256) (hy0 : 0 ≤ y) (hy1 : y < 256) :
    Calls Tryz.prog 183 #[.agg #[.func (.func k1) #[] c1, .func (.func k2) #[] c2], .int .u8 x, .int .u8 y] w fun e w' => e = .returned (.bool (P x && Q y)) ∧ Below w.heap.size w w' := by
  have hb : Below w.heap.size w (w.alloc (.cells #[.func (.func k1) #[] c1, .func (.func k2) #[] c2] 142)) := (Below.refl _ _).alloc (Nat.le_refl _) _
  have HB := Lib.hid hb
  have KP := Lib.hid hp.1
  have KQ := Lib.hid hq.1
  have CP := Lib.hid (hp.2 x _ hx0 hx1 hb)
  have CQ := Lib.hid (hq.2 y _ hy0 hy1 hb)
  clear hp hq hb hx0 hx1 hy0 hy1
  go_enter Tryz.func183, Tryz.ntmps183
  go_wp2_with fail
  rw [KP.out, Oper.upon_enter]
  refine CP.out.mono ?_
  rintro e w2 ⟨rfl, rfl⟩
  go_wp2_with fail
  · rw [KQ.out, Oper.upon_enter]
    refine CQ.out.mono ?_
    rintro e w2 ⟨rfl, rfl⟩
    go_wp2
    have hy : P x = true := by assumption
    go_ret
    exact ⟨ret_bool (by rw [hy, Bool.true_and]), HB.out⟩
  · have hy : P x = false := by
      cases h : P x with
      | true => exact absurd h (by assumption)
      | false => rfl
    go_ret
    exact ⟨ret_bool (by rw [hy, Bool.false_and]), HB.out⟩
theorem cell_kept8 (w w' : World) (hb : Below w.heap.size w w') {p : Addr} {v : Value} (h : w.cell? p = some v) : w'.cell? p = some v := (hb.cell (block_lt_of_cell h)).trans h
set_option maxHeartbeats 1000000 in
/-- The count of the neighbours that meet both. -/
theorem countIn_any (k1 k2 : Nat) (c1 c2 : Array Value) (P Q : Int → Bool) (s : ByteArray) (w : World) (hs : s.size ≤ maxLen) (hp : Cond8 k1 c1 P w) (hq : Cond8 k2 c2 Q w) :
    Calls Tryz.prog 164 #[.agg #[.func (.func k1) #[] c1, .func (.func k2) #[] c2], .string s] w fun e w' => e = .returned (.int .i64 (mkC P Q s)) ∧ Below w.heap.size w w' := by
  have HM := Lib.hid hs
  generalize hW : w.alloc (.cells #[.func (.func k1) #[] c1, .func (.func k2) #[] c2] 142) = W
  have hb : Below w.heap.size w W := by rw [← hW]; exact (Below.refl _ _).alloc (Nat.le_refl _) _
  by_cases hf : isFm s = true
  · have h8 := isFm_size hf
    have HE := Lib.hid (mkC_in P Q s hf)
    have HC := Lib.hid (cell_two w (.func (.func k1) #[] c1) (.func (.func k2) #[] c2) 142)
    rw [hW] at HC
    have HB := Lib.hid hb
    have HP := Lib.hid (hp.below hb)
    have HQ := Lib.hid (hq.below hb)
    clear hp hq hb hs
    go_enter Tryz.func164, Tryz.ntmps164
    go_wp2_with fail
    refine (implFmS_any s _ HM.out).mono ?_
    rintro e w2 ⟨rfl, rfl⟩
    rw [hf]
    go_wp2
    clear hW
    go_loopw [5, 6, 13] (fun n l i wr => ∃ (j : Nat), j ≤ s.size ∧ i = .int .i64 j ∧ n = .int .i64 (cntP (mkAt P Q s) j) ∧ l = .int .u8 (eB s j) ∧ Below W.heap.size W wr) (fun _ _ i _ => s.size - (intOf i).toNat)
    case atStart => exact ⟨0, by omega, rfl, rfl, rfl, Below.refl _ _⟩
    case round =>
      obtain ⟨j, hj, rfl, rfl, rfl, hbe⟩ := hrel
      have hcl := cntP_le (mkAt P Q s) j
      have HBE := Lib.hid hbe
      have hc0 := cell_kept8 _ _ hbe HC.out.1
      have hc1 := cell_kept8 _ _ hbe HC.out.2
      clear hbe
      by_cases hlt : j < s.size
      · have hB := bAt_in s j hlt
        have hr0 := fun d os => cell_regrown hc0 d os
        have hr1 := fun d os => cell_regrown hc1 d os
        have cI : ∀ d os, Calls Tryz.prog 183 #[.agg #[.func (.func k1) #[] c1, .func (.func k2) #[] c2], .int .u8 (eB s j), .int .u8 (bAt s j)] (grow (redrawn wr d) os) fun e w'' => e = .returned (.bool (mkAt P Q s j)) ∧ ∃ p : Regrown, w'' = grow (redrawn wr p.d) p.os :=
          fun d os => Calls.regrown_of (isOn_any k1 k2 c1 c2 P Q (eB s j) (bAt s j) _ ((HP.out.below HBE.out).below (below_regrown wr d os)) ((HQ.out.below HBE.out).below (below_regrown wr d os)) (eB_range s j).1 (eB_range s j).2 (bAt_range s j).1 (bAt_range s j).2)
        go_wp2
        refine wp_region_quiet_below (by kernel_rfl) (by kernel_rfl) ?_
        repeat (quiet_step (first | exact cI _ _))
        refine wpQuiet_nil ?_
        intro _ hw'
        obtain ⟨⟨dq, osq⟩, hw''⟩ := hw'
        subst hw''
        have hbq := Lib.hid (HBE.out.trans ((below_regrown wr dq osq).mono HBE.out.size))
        go_wp2
        · have hy : mkAt P Q s j = true := by assumption
          go_roundw
          case rel => exact ⟨j + 1, by omega, by go_num, by rw [cntP_yes _ j hy]; go_num, rfl, hbq.out⟩
          case measure => simp [intOf]; omega
        · have hy : mkAt P Q s j = false := by assumption
          go_roundw
          case rel => exact ⟨j + 1, by omega, by go_num, by rw [cntP_no _ j hy], rfl, hbq.out⟩
          case measure => simp [intOf]; omega
      · obtain rfl : j = s.size := by omega
        have hmk : Hid (mkAt P Q s s.size = (P (eB s s.size) && Q 0)) := by
          unfold Hid mkAt
          rw [eB_succ, bAt_out s s.size (Nat.le_refl _)]
        go_wp2_with fail
        refine (isOn_any k1 k2 c1 c2 P Q (eB s s.size) 0 wr (HP.out.below HBE.out) (HQ.out.below HBE.out) (eB_range s s.size).1 (eB_range s s.size).2 (by decide) (by decide)).mono ?_
        rintro e w2 ⟨rfl, hb2⟩
        have HB2 := Lib.hid (HBE.out.trans (hb2.mono HBE.out.size))
        rw [← hmk.out]
        clear hb2
        go_wp2
        · have hy : mkAt P Q s s.size = true := by assumption
          go_ret
          exact ⟨by rw [HE.out, cntP_yes _ _ hy]; go_num, HB.out.trans (HB2.out.mono HB.out.size)⟩
        · have hy : mkAt P Q s s.size = false := by assumption
          go_ret
          exact ⟨by rw [HE.out, cntP_no _ _ hy]; rfl, HB.out.trans (HB2.out.mono HB.out.size)⟩
  · have hf : isFm s = false := by simpa using hf
    have HE := Lib.hid (mkC_no P Q s hf)
    have HB := Lib.hid hb
    clear hp hq hb
    go_enter Tryz.func164, Tryz.ntmps164
    go_wp2_with fail
    refine (implFmS_any s _ HM.out).mono ?_
    rintro e w2 ⟨rfl, rfl⟩
    rw [hf]
    go_wp2
    go_ret
    exact ⟨by rw [HE.out]; rfl, HB.out⟩
end Go.Proofs.YtkaihnlknncfdaaGreatDoor

/- The program's marks of forms: what they answer. -/
namespace Go.Proofs.YtkaihnlknncfdaaGreatDoor
set_option maxRecDepth 100000
open Go.RowKit Go.Sort M

theorem implOns_any (s : ByteArray) (w : World) (hs : s.size ≤ maxLen) (hT : FeatTab w) :
    Calls Tryz.prog 146 #[.string s] w fun e w' => e = .returned (.int .i64 (mkC nconsB vowB s)) ∧ Below w.heap.size w w' := by
  have HM := Lib.hid hs
  have HT := Lib.hid hT
  clear hs hT
  go_enter Tryz.func146, Tryz.ntmps146
  go_wp2_with fail
  refine (not_any 162 _ w (cCons _ HT.out)).mono ?_
  rintro e w1 ⟨a, rfl, hb1, hc⟩
  have HB1 := Lib.hid hb1
  have HC := Lib.hid hc
  have HT1 := Lib.hid (feat_below HT.out hb1)
  clear hb1 hc
  go_wp2_with fail
  refine (countIn_any 181 163 #[.pointer (some ⟨a, 0, none⟩)] #[] nconsB vowB s _ HM.out HC.out (cVow _ HT1.out)).mono ?_
  rintro e w2 ⟨rfl, hb⟩
  have HB2 := Lib.hid (HB1.out.trans (hb.mono HB1.out.size))
  clear hb
  go_wp2
  go_ret
  exact ⟨rfl, HB2.out⟩
theorem implCod_any (s : ByteArray) (w : World) (hs : s.size ≤ maxLen) (hT : FeatTab w) :
    Calls Tryz.prog 148 #[.string s] w fun e w' => e = .returned (.int .i64 (mkC consB nvowB s)) ∧ Below w.heap.size w w' := by
  have HM := Lib.hid hs
  have HT := Lib.hid hT
  clear hs hT
  go_enter Tryz.func148, Tryz.ntmps148
  go_wp2_with fail
  refine (not_any 163 _ w (cVow _ HT.out)).mono ?_
  rintro e w1 ⟨a, rfl, hb1, hc⟩
  have HB1 := Lib.hid hb1
  have HC := Lib.hid hc
  have HT1 := Lib.hid (feat_below HT.out hb1)
  clear hb1 hc
  go_wp2_with fail
  refine (countIn_any 162 181 #[] #[.pointer (some ⟨a, 0, none⟩)] consB nvowB s _ HM.out (cCons _ HT1.out) HC.out).mono ?_
  rintro e w2 ⟨rfl, hb⟩
  have HB2 := Lib.hid (HB1.out.trans (hb.mono HB1.out.size))
  clear hb
  go_wp2
  go_ret
  exact ⟨rfl, HB2.out⟩
theorem implClu_any (s : ByteArray) (w : World) (hs : s.size ≤ maxLen) (hT : FeatTab w) :
    Calls Tryz.prog 149 #[.string s] w fun e w' => e = .returned (.int .i64 (mkC consB consB s)) ∧ Below w.heap.size w w' := by
  have HM := Lib.hid hs
  have HT := Lib.hid hT
  clear hs hT
  go_enter Tryz.func149, Tryz.ntmps149
  go_wp2_with fail
  refine (countIn_any 162 162 #[] #[] consB consB s _ HM.out (cCons _ HT.out) (cCons _ HT.out)).mono ?_
  rintro e w2 ⟨rfl, hb⟩
  go_wp2
  go_ret
  exact ⟨rfl, hb⟩
theorem implVoi_any (s : ByteArray) (w : World) (hs : s.size ≤ maxLen) (hT : FeatTab w) :
    Calls Tryz.prog 150 #[.string s] w fun e w' => e = .returned (.int .i64 (mkC anyB vobB s)) ∧ Below w.heap.size w w' := by
  have HM := Lib.hid hs
  have HT := Lib.hid hT
  clear hs hT
  go_enter Tryz.func150, Tryz.ntmps150
  go_wp2_with fail
  refine (countIn_any 165 166 #[] #[] anyB vobB s _ HM.out (cAny _) (cVob _ HT.out)).mono ?_
  rintro e w2 ⟨rfl, hb⟩
  go_wp2
  go_ret
  exact ⟨rfl, hb⟩
theorem implFin_any (s : ByteArray) (w : World) (hs : s.size ≤ maxLen) (hT : FeatTab w) :
    Calls Tryz.prog 151 #[.string s] w fun e w' => e = .returned (.int .i64 (mkC vobB edgB s)) ∧ Below w.heap.size w w' := by
  have HM := Lib.hid hs
  have HT := Lib.hid hT
  clear hs hT
  go_enter Tryz.func151, Tryz.ntmps151
  go_wp2_with fail
  refine (countIn_any 166 167 #[] #[] vobB edgB s _ HM.out (cVob _ HT.out) (cEdg _)).mono ?_
  rintro e w2 ⟨rfl, hb⟩
  go_wp2
  go_ret
  exact ⟨rfl, hb⟩
theorem implNas_any (s : ByteArray) (w : World) (hs : s.size ≤ maxLen) (hT : FeatTab w) :
    Calls Tryz.prog 152 #[.string s] w fun e w' => e = .returned (.int .i64 (mkC nasB vlsB s)) ∧ Below w.heap.size w w' := by
  have HM := Lib.hid hs
  have HT := Lib.hid hT
  clear hs hT
  go_enter Tryz.func152, Tryz.ntmps152
  go_wp2_with fail
  refine (countIn_any 168 169 #[] #[] nasB vlsB s _ HM.out (cNas _ HT.out) (cVls _ HT.out)).mono ?_
  rintro e w2 ⟨rfl, hb⟩
  go_wp2
  go_ret
  exact ⟨rfl, hb⟩
end Go.Proofs.YtkaihnlknncfdaaGreatDoor

/- The program's sidesOf, IsCandidate: what they answer. -/
namespace Go.Proofs.YtkaihnlknncfdaaGreatDoor
set_option maxRecDepth 100000
open Go.RowKit M
set_option linter.unusedVariables false
set_option linter.unusedSimpArgs false

/-- Two rows of bytes of the call's own. -/
def TwoB (base : Nat) (w : World) (u v : Value) (a b : List UInt8) : Prop :=
  w.ownsRow base 5 1 u a.length (cellsB a) ∧ w.ownsRow base 5 1 v b.length (cellsB b) ∧ ∀ k, u.ownBlock = some k → v.ownBlock ≠ some k
theorem TwoB.symm {base : Nat} {w : World} {u v : Value} {a b : List UInt8} (h : TwoB base w u v a b) : TwoB base w v u b a :=
  ⟨h.2.1, h.1, fun k hk hu => h.2.2 k hu hk⟩
theorem TwoB.kept {base : Nat} {w w' : World} {u v : Value} {a b : List UInt8} (h : TwoB base w u v a b) (hb : Below w.heap.size w w') : TwoB base w' u v a b := by
  obtain ⟨h1, h2, h3⟩ := h
  have keep : ∀ {u : Value} {a : List UInt8}, w.ownsRow base 5 1 u a.length (cellsB a) → w'.ownsRow base 5 1 u a.length (cellsB a) := fun h => by
    refine ⟨h.1, ?_⟩
    rcases h.2 with hn | ⟨g, cap, cur, e, hg0, hg, rest⟩
    · exact Or.inl hn
    · exact Or.inr ⟨g, cap, cur, e, hg0, (hb.block g (lt_of_block hg)).trans hg, rest⟩
  exact ⟨keep h1, keep h2, h3⟩
theorem row_not {w : World} {base n : Nat} {u : Value} {c : List Value} (h : w.ownsRow base 5 1 u n c) {g : Nat} {cs : Array Value} {t : TypeId} (hg : InC w g cs t) (ht : t ≠ 5) : u.ownBlock ≠ some g := by
  rcases h.2 with ⟨rfl, _⟩ | ⟨g', cap, cur, rfl, _, hg', _⟩
  · simp [Value.ownBlock]
  · intro e
    have : g' = g := by simpa [Value.ownBlock] using e
    subst this
    unfold InC at hg
    rw [hg'] at hg
    injection (Option.some.inj hg) with _ e2 _
    exact ht e2.symm
theorem wpList_append_twoB {ops : Array Oper} {rest : List Oper} {o : Oper} {a : Act} {Q : Exit → Act → World → Prop} (w : World) (hgd : o.guard = none) (s x : Operand)
    (ho : o.op = .call { callee := .builtin .append, args := #[s, x], argTypes := #[112, 112] })
    (base : Nat) (u v : Value) (l m : List UInt8) (hT : TwoB base w u v l m) (hs : a.eval s = u) (b : Int) (hb0 : 0 ≤ b) (hb1 : b < 256)
    (nb : Nat) (hnb : nb = w.heap.size) (hx : a.eval x = .slice (some ⟨nb, 0, none⟩) 1 1) (hn : l.length ≤ 70368744177664) (hbase : base ≤ w.heap.size)
    (h : ∀ u' w', TwoB base w' u' v (l ++ [byt b]) m → Below base w w' → (∀ g cs t, t ≠ 5 → InC w g cs t → InC w' g cs t) → wpList Tryz.prog ops Q rest (a.put o.dst u') w') :
    wpList Tryz.prog ops Q (o :: rest) a (w.alloc (.cells #[.int .u8 b] 5)) := by
  obtain ⟨i0, hi, hz0, hz1, hz2⟩ := info_parts Tryz.info5
  subst hnb
  obtain ⟨hown, hother, hne⟩ := hT
  refine wpList_append_own_at (w.alloc (.cells #[.int .u8 b] 5)) hgd s x 112 ho base 5 i0 (.int .u8 0) 1 1 Tryz.underlying112 hi hz0 hz1 hz2 rfl (by decide) u l.length (cellsB l) hs (hown.alloc _) ⟨w.heap.size, 0, none⟩ 1 1 [.int .u8 b] hx rfl (cell_one_new _ _ _)
    (fun u hu => by simp at hu; subst hu; rfl) (by unfold maxLen; omega) (by omega) (by simp; omega) ?_
  intro u' w' h1 h2 _ h4
  have hkeep : ∀ k, k < w.heap.size → u.ownBlock ≠ some k → w'.heap[k]? = w.heap[k]? := fun k hk hu =>
    (h2.block k (by simp; omega) (fun e => hu e.symm)).trans (Below.heap_alloc w _ k hk)
  refine h u' w' ⟨by rw [cellsB_append, cellsB_one b hb0 hb1, List.length_append]; exact h1, ?_, ?_⟩ ?_ ?_
  · refine ⟨hother.1, ?_⟩
    rcases hother.2 with hn | ⟨g, cap, cur, rfl, hg0, hg, rest⟩
    · exact Or.inl hn
    · exact Or.inr ⟨g, cap, cur, rfl, hg0, (hkeep g (lt_of_block hg) (fun e => hne g e rfl)).trans hg, rest⟩
  · intro k hk hv
    rcases h4 with h4 | h4
    · rw [h4] at hk; exact hne k hk hv
    · rw [h4] at hk
      have := (hother.lt k hv).2
      simp at hk
      omega
  · exact ((Below.refl base w).alloc hbase _).grown h2 (by simp; omega) (fun q hq => (hown.lt q hq).1)
  · intro g cs t ht hg
    exact (hkeep g hg.lt (row_not hown hg ht)).trans hg
theorem ownsRow_drewN {w : World} {base n m : Nat} {v : Value} {c : List Value} (h : w.ownsRow base 5 1 v n c) : (w.drewN m).ownsRow base 5 1 v n c := by
  induction m generalizing w with
  | zero => exact h
  | succ m ih => exact ih h.drew
set_option maxHeartbeats 4000000 in
theorem implSides_any (l : List DLink) (v : Value) (F : Addr → Prop) (w : World) (hl : l.length ≤ 1048576) (hv : RowRd rLink false w v l F) :
    Calls Tryz.prog 106 #[v] w fun e w' => e = .returned (.tuple #[.string ⟨(inL l).toArray⟩, .string ⟨(outL l).toArray⟩]) ∧ Below w.heap.size w w' := by
  obtain ⟨A, cap, rfl⟩ := hv.form
  have HV := Lib.hid hv
  clear hv
  have HX : Hid (∀ k, k < l.length → ∃ y, l[k]? = some y) := fun k hk => ⟨_, List.getElem?_eq_getElem hk⟩
  go_enter Tryz.func106, Tryz.ntmps106
  go_wp2
  go_loopw [4, 5, 10] (fun u v i wr => ∃ (k : Nat), k ≤ l.length ∧ i = .int .i64 k ∧ TwoB w.heap.size wr u v (inL (l.take k)) (outL (l.take k)) ∧ Below w.heap.size w wr) (fun _ _ i _ => l.length - (intOf i).toNat)
  case atStart => exact ⟨0, by omega, rfl, ⟨World.ownsRow_nil _ _ _ _, World.ownsRow_nil _ _ _ _, fun k hk => by simp [Value.ownBlock] at hk⟩, Below.refl _ _⟩
  case round =>
    obtain ⟨k, hk, rfl, ht, hbe⟩ := hrel
    have HBE := Lib.hid hbe
    clear hbe
    by_cases hkl : k < l.length
    · obtain ⟨y, hy⟩ := HX.out k hkl
      obtain ⟨g, off, xs, Fk, rfl, _, hra, _, hca⟩ := (HV.out.kept HBE.out).get hy
      obtain rfl := rLink_rd hra
      rw [rLink_size] at hca
      have c0 := hca 0 _ rfl
      have c1 := hca 1 _ rfl
      simp only [Nat.add_zero] at c0
      have HIY := Lib.hid (fun h => inL_yes hy h)
      have HIN := Lib.hid (fun h => inL_no hy h)
      have HOY := Lib.hid (fun h => outL_yes hy h)
      have HON := Lib.hid (fun h => outL_no hy h)
      have hli := inL_len l k
      have hlo := outL_len l k
      clear hca hra hy
      have ha := u8_in y.In
      have hb := u8_in y.Out
      generalize inL (l.take k) = I0 at *
      generalize outL (l.take k) = O0 at *
      generalize (y.In.toNat : Int) = a at *
      generalize (y.Out.toNat : Int) = b at *
      have HT1 : Hid (TwoB w.heap.size (wr.alloc (.cells #[.int .u8 a, .int .u8 b] 118)) _ _ I0 O0) := ht.kept ((Below.refl _ _).alloc (Nat.le_refl _) _)
      have HL : Hid (InC (wr.alloc (.cells #[.int .u8 a, .int .u8 b] 118)) wr.heap.size #[.int .u8 a, .int .u8 b] 118) := heap_alloc_new _ _
      have HBA : Hid (Below w.heap.size w (wr.alloc (.cells #[.int .u8 a, .int .u8 b] 118))) := HBE.out.alloc HBE.out.size _
      have HAB := Lib.hid (And.intro ha hb)
      have HLE : Hid (I0.length ≤ 70368744177664 ∧ O0.length ≤ 70368744177664) := by unfold Hid; omega
      clear ha hb ht hli hlo
      by_cases ha0 : a = 0
      · have HI := Lib.hid (HIN.out ha0)
        subst ha0
        by_cases hb0 : b = 0
        · have HO := Lib.hid (HON.out hb0)
          subst hb0
          go_wp2
          go_roundw
          case rel => exact ⟨k + 1, by omega, by go_num, by rw [HI.out, HO.out]; exact HT1.out, HBA.out⟩
          case measure => simp [intOf]; omega
        · have HO := Lib.hid (HOY.out hb0)
          go_wp2_with (at_builtin; refine wpList_append_twoB _ rfl (.tmp 25) (.tmp 28) rfl w.heap.size _ _ _ _ HT1.out.symm rfl b HAB.out.2.1 HAB.out.2.2 _ (by simp) rfl HLE.out.2 HBA.out.size ?_; intro v' w1 h1 hb1 hk1; have HT2 := Lib.hid h1; have HB1 := Lib.hid hb1; clear h1 hb1 hk1)
          go_roundw
          case rel => exact ⟨k + 1, by omega, by go_num, by rw [HI.out, HO.out]; exact HT2.out.symm, HBA.out.trans HB1.out⟩
          case measure => simp [intOf]; omega
      · have HI := Lib.hid (HIY.out ha0)
        by_cases hb0 : b = 0
        · have HO := Lib.hid (HON.out hb0)
          subst hb0
          go_wp2_with (at_builtin; refine wpList_append_twoB _ rfl (.tmp 17) (.tmp 20) rfl w.heap.size _ _ _ _ HT1.out rfl a HAB.out.1.1 HAB.out.1.2 _ (by simp) rfl HLE.out.1 HBA.out.size ?_; intro v' w1 h1 hb1 hk1; have hl1 := hk1 _ _ _ (by decide) HL.out; have d0 := hl1.cell 0 rfl; have d1 := hl1.cell 1 rfl; have HT2 := Lib.hid h1; have HB1 := Lib.hid hb1; clear h1 hb1 hk1 hl1)
          go_roundw
          case rel => exact ⟨k + 1, by omega, by go_num, by rw [HI.out, HO.out]; exact HT2.out, HBA.out.trans HB1.out⟩
          case measure => simp [intOf]; omega
        · have HO := Lib.hid (HOY.out hb0)
          go_wp2_with (first | (at_builtin; refine wpList_append_twoB _ rfl (.tmp 17) (.tmp 20) rfl w.heap.size _ _ _ _ HT1.out rfl a HAB.out.1.1 HAB.out.1.2 _ (by simp) rfl HLE.out.1 HBA.out.size ?_; intro v' w1 h1 hb1 hk1; have hl1 := hk1 _ _ _ (by decide) HL.out; have d0 := hl1.cell 0 rfl; have d1 := hl1.cell 1 rfl; have HT2 := Lib.hid h1; have HB1 : Hid (Below w.heap.size w w1) := HBA.out.trans hb1; clear h1 hb1 hk1 hl1 HT1) | (at_builtin; refine wpList_append_twoB _ rfl (.tmp 25) (.tmp 28) rfl w.heap.size _ _ _ _ HT2.out.symm rfl b HAB.out.2.1 HAB.out.2.2 _ (by simp) rfl HLE.out.2 HB1.out.size ?_; intro v2 w2 h1 hb1 hk1; have HT3 := Lib.hid h1; have HB2 := Lib.hid hb1; clear h1 hb1 hk1))
          go_roundw
          case rel => exact ⟨k + 1, by omega, by go_num, by rw [HI.out, HO.out]; exact HT3.out.symm, HB1.out.trans HB2.out⟩
          case measure => simp [intOf]; omega
    · obtain rfl : k = l.length := by omega
      rw [List.take_length] at ht
      have hc1 : ∀ n, (convert 112 9 u4).run Tryz.prog (wr.drewN n) = .ok (.string ⟨(inL l).toArray⟩) (wr.drewN n) := fun n => conv_own (ownsRow_drewN ht.1)
      have hc2 : ∀ n, (convert 112 9 u5).run Tryz.prog (wr.drewN n) = .ok (.string ⟨(outL l).toArray⟩) (wr.drewN n) := fun n => conv_own (ownsRow_drewN ht.2.1)
      go_wp2
      go_quiet (fail)
      go_wp2
      go_ret2
      exact ⟨rfl, drewN_below HBE.out⟩
set_option maxHeartbeats 4000000 in
theorem implIsCd_any (x : DCandidate) (v : Value) (F : Addr → Prop) (w : World) (hl : x.Links.length ≤ 1048576) (hv : RowRd rLink false w v x.Links F) :
    Calls Tryz.prog 80 #[.agg #[v]] w fun e w' => e = .returned (.bool (isCd x.Links)) ∧ Below w.heap.size w w' := by
  obtain ⟨A, cap, rfl⟩ := hv.form
  have HV := Lib.hid hv
  clear hv
  go_enter Tryz.func80, Tryz.ntmps80
  by_cases h16 : (16 : Int) < x.Links.length
  case pos =>
    have HE : Hid (isCd x.Links = false) := isCd_long (by omega)
    go_wp2
    go_ret
    exact ⟨ret_bool HE.out.symm, (Below.refl _ _).alloc (Nat.le_refl _) _⟩
  have HX : Hid (∀ k, k < x.Links.length → ∃ y, x.Links[k]? = some y) := fun k hk => ⟨_, List.getElem?_eq_getElem hk⟩
  have HNOT : Hid (∀ k (y : DLink), x.Links[k]? = some y → okI (y.In.toNat : Int) (y.Out.toNat : Int) = false → isCd x.Links = false) := fun k y h1 h2 => isCd_not h1 h2
  go_wp2
  go_loopw [14] (fun i wr => ∃ (k : Nat), k ≤ x.Links.length ∧ i = .int .i64 k ∧ Hid (∀ j y, x.Links[j]? = some y → j < k → okI (y.In.toNat : Int) (y.Out.toNat : Int) = true) ∧ Below w.heap.size w wr ∧ InC wr w.heap.size #[.slice A x.Links.length cap] 55) (fun i _ => x.Links.length - (intOf i).toNat)
  case atStart => exact ⟨0, by omega, rfl, fun j y _ h => by omega, (Below.refl _ _).alloc (Nat.le_refl _) _, heap_alloc_new _ _⟩
  case round =>
    obtain ⟨k, hk, rfl, hall, hbe, hi1⟩ := hrel
    have b1 := hi1.cell 0 rfl
    have HBE := Lib.hid hbe
    have HI1 := Lib.hid hi1
    clear hbe hi1
    by_cases hkl : k < x.Links.length
    · obtain ⟨y, hy⟩ := HX.out k hkl
      obtain ⟨g, off, xs, Fk, rfl, _, hra, _, hca⟩ := (HV.out.kept HBE.out).get hy
      obtain rfl := rLink_rd hra
      rw [rLink_size] at hca
      have c0 := hca 0 _ rfl
      have c1 := hca 1 _ rfl
      simp only [Nat.add_zero] at c0
      have HY := Lib.hid hy
      clear hca hra hy
      have HOK : Hid (okI (y.In.toNat : Int) (y.Out.toNat : Int) = true → ∀ j z, x.Links[j]? = some z → j < k + 1 → okI (z.In.toNat : Int) (z.Out.toNat : Int) = true) := fun h j z hz hj => by
        by_cases hjk : j = k
        · subst hjk; rw [HY.out] at hz; cases hz; exact h
        · exact hall.out j z hz (by omega)
      have HNO := Lib.hid (HNOT.out k y HY.out)
      have ha := u8_in y.In
      have hb := u8_in y.Out
      generalize (y.In.toNat : Int) = a at *
      generalize (y.Out.toNat : Int) = b at *
      have HAB := Lib.hid (And.intro ha hb)
      clear ha hb HY
      go_wp2_with fail
      refine (implValid_any a b _ _ HAB.out.1 HAB.out.2 (heap_alloc_new _ _)).mono ?_
      rintro e w2 ⟨rfl, hb2⟩
      have HB2 : Hid (Below w.heap.size w w2) := (HBE.out.alloc HBE.out.size _).trans (hb2.mono (by simp; have := HBE.out.size; omega))
      have HI2 : Hid (InC w2 w.heap.size #[.slice (some ⟨g, off, none⟩) x.Links.length cap] 55) := (HI1.out.kept ((Below.refl _ _).alloc (Nat.le_refl _) _)).kept hb2
      clear hb2 HI1 b1
      have b2 := HI2.out.cell 0 rfl
      cases hok : okI a b
      · have HR := Lib.hid (HNO.out hok)
        go_wp2
        go_ret
        exact ⟨ret_bool HR.out.symm, HB2.out⟩
      · have HALL := Lib.hid (HOK.out hok)
        go_wp2
        go_roundw
        case rel => exact ⟨k + 1, by omega, by go_num, HALL, HB2.out, HI2.out⟩
        case measure => simp [intOf]; omega
    · obtain rfl : k = x.Links.length := by omega
      have HI : Hid (isCd x.Links = (isFm ⟨(inL x.Links).toArray⟩ && isFm ⟨(outL x.Links).toArray⟩)) := by
        unfold Hid isCd
        rw [all_ok (fun j y h1 h2 => hall.out j y h1 h2), Bool.true_and, show decide ((x.Links.length : Int) ≤ 16) = true by simp; omega, Bool.true_and]
      have hli := inL_len_all x.Links
      have hlo := outL_len_all x.Links
      have HLI : Hid ((⟨(inL x.Links).toArray⟩ : ByteArray).size ≤ maxLen) := by unfold Hid maxLen; simp [ByteArray.size]; omega
      have HLO : Hid ((⟨(outL x.Links).toArray⟩ : ByteArray).size ≤ maxLen) := by unfold Hid maxLen; simp [ByteArray.size]; omega
      have HSD := Lib.hid (implSides_any x.Links _ F wr hl (HV.out.kept HBE.out))
      go_wp2_with fail
      refine HSD.out.mono ?_
      rintro e w2 ⟨rfl, hb2⟩
      have HB2 : Hid (Below w.heap.size w w2) := below_step HBE.out hb2
      clear hb2 HSD
      go_wp2_with fail
      refine (implFmS_any ⟨(inL x.Links).toArray⟩ _ HLI.out).mono ?_
      rintro e w3 ⟨rfl, rfl⟩
      generalize isFm ⟨(inL x.Links).toArray⟩ = fi at *
      cases fi
      · go_wp2_with fail
        go_ret
        exact ⟨ret_bool (by rw [HI.out] <;> simp), HB2.out⟩
      · go_wp2_with fail
        refine (implFmS_any ⟨(outL x.Links).toArray⟩ _ HLO.out).mono ?_
        rintro e w4 ⟨rfl, rfl⟩
        go_wp2_with fail
        go_ret
        exact ⟨ret_bool (by rw [HI.out] <;> simp), HB2.out⟩
end Go.Proofs.YtkaihnlknncfdaaGreatDoor

/- The program's conditions on a link and its counts: what they answer. -/
namespace Go.Proofs.YtkaihnlknncfdaaGreatDoor
set_option maxRecDepth 100000
open Go.RowKit M
set_option linter.unusedVariables false
set_option linter.unusedSimpArgs false
set_option maxRecDepth 100000

abbrev lkV (x : DLink) : Value := .agg #[.int .u8 (x.In.toNat : Int), .int .u8 (x.Out.toNat : Int)]
theorem away_any (x : DLink) (w : World) :
    Calls Tryz.prog 172 #[lkV x] w fun e w' => e = .returned (.bool (delK x)) ∧ Below w.heap.size w w' := by
  have HE : Hid (delK x = ((x.Out.toNat : Int) == 0)) := by unfold Hid delK; rw [Bool.eq_iff_iff]; simp
  unfold lkV
  generalize (x.In.toNat : Int) = a at *
  generalize (x.Out.toNat : Int) = b at *
  generalize delK x = r at *
  go_enter Tryz.func172, Tryz.ntmps172
  go_wp2
  go_ret
  exact ⟨ret_bool HE.out.symm, (Below.refl _ _).alloc (Nat.le_refl _) _⟩
theorem putin_any (x : DLink) (w : World) :
    Calls Tryz.prog 173 #[lkV x] w fun e w' => e = .returned (.bool (insK x)) ∧ Below w.heap.size w w' := by
  have HE : Hid (insK x = ((x.In.toNat : Int) == 0)) := by unfold Hid insK; rw [Bool.eq_iff_iff]; simp
  unfold lkV
  generalize (x.In.toNat : Int) = a at *
  generalize (x.Out.toNat : Int) = b at *
  generalize insK x = r at *
  go_enter Tryz.func173, Tryz.ntmps173
  go_wp2
  go_ret
  exact ⟨ret_bool HE.out.symm, (Below.refl _ _).alloc (Nat.le_refl _) _⟩
theorem kept_any (x : DLink) (w : World) :
    Calls Tryz.prog 185 #[lkV x] w fun e w' => e = .returned (.bool (kepK x)) ∧ Below w.heap.size w w' := by
  have HE : Hid (kepK x = (!delK x && !insK x)) := rfl
  have HD : Hid (∀ W, Calls Tryz.prog 172 #[lkV x] W fun e w' => e = .returned (.bool (delK x)) ∧ Below W.heap.size W w') := fun W => away_any x W
  have HI : Hid (∀ W, Calls Tryz.prog 173 #[lkV x] W fun e w' => e = .returned (.bool (insK x)) ∧ Below W.heap.size W w') := fun W => putin_any x W
  unfold lkV at *
  generalize (x.In.toNat : Int) = a at *
  generalize (x.Out.toNat : Int) = b at *
  generalize kepK x = r at *
  generalize delK x = d at *
  generalize insK x = i at *
  have HB : Hid (Below w.heap.size w (w.alloc (.cells #[.int .u8 a, .int .u8 b] 118))) := (Below.refl _ _).alloc (Nat.le_refl _) _
  have HX : Hid (InC (w.alloc (.cells #[.int .u8 a, .int .u8 b] 118)) w.heap.size #[.int .u8 a, .int .u8 b] 118) := heap_alloc_new _ _
  go_enter Tryz.func185, Tryz.ntmps185
  go_wp2_with fail
  refine (HD.out _).mono ?_
  rintro e w2 ⟨rfl, hb2⟩
  have HX2 := HX.out.kept hb2
  have c0 := HX2.cell 0 rfl
  have c1 := HX2.cell 1 rfl
  have HB2 : Hid (Below w.heap.size w w2) := below_step HB.out hb2
  clear hb2
  cases d
  · go_wp2_with fail
    refine (HI.out _).mono ?_
    rintro e w3 ⟨rfl, hb3⟩
    have HB3 : Hid (Below w.heap.size w w3) := below_step HB2.out hb3
    clear hb3
    go_wp2_with fail
    go_ret
    exact ⟨ret_bool (by rw [HE.out]; rfl), HB3.out⟩
  · go_wp2_with fail
    go_ret
    exact ⟨ret_bool (by rw [HE.out]; rfl), HB2.out⟩
theorem voice_any (x : DLink) (w : World) :
    Calls Tryz.prog 174 #[lkV x] w fun e w' => e = .returned (.bool (vchK x)) ∧ Below w.heap.size w w' := by
  have HE : Hid (vchK x = (kepK x && !((x.In.toNat : Int) == (x.Out.toNat : Int)))) := by unfold Hid vchK; congr 2
  have HD : Hid (∀ W, Calls Tryz.prog 185 #[lkV x] W fun e w' => e = .returned (.bool (kepK x)) ∧ Below W.heap.size W w') := fun W => kept_any x W
  unfold lkV at *
  generalize (x.In.toNat : Int) = a at *
  generalize (x.Out.toNat : Int) = b at *
  generalize vchK x = r at *
  generalize kepK x = d at *
  have HB : Hid (Below w.heap.size w (w.alloc (.cells #[.int .u8 a, .int .u8 b] 118))) := (Below.refl _ _).alloc (Nat.le_refl _) _
  have HX : Hid (InC (w.alloc (.cells #[.int .u8 a, .int .u8 b] 118)) w.heap.size #[.int .u8 a, .int .u8 b] 118) := heap_alloc_new _ _
  go_enter Tryz.func174, Tryz.ntmps174
  go_wp2_with fail
  refine (HD.out _).mono ?_
  rintro e w2 ⟨rfl, hb2⟩
  have HX2 := HX.out.kept hb2
  have c0 := HX2.cell 0 rfl
  have c1 := HX2.cell 1 rfl
  have HB2 : Hid (Below w.heap.size w w2) := below_step HB.out hb2
  clear hb2
  cases d
  · go_wp2_with fail
    go_ret
    exact ⟨ret_bool (by rw [HE.out]; rfl), HB2.out⟩
  · go_wp2_with fail
    go_ret
    refine ⟨ret_bool ?_, HB2.out⟩
    rw [HE.out, Bool.true_and]
    first | rfl | simp
/-- A condition on a link, as a function value. -/
def CondK (k : Nat) (p : DLink → Bool) : Prop :=
  (∀ args w', (callFunc k args).run Tryz.prog w' = .ok (.enter k args) w') ∧
  ∀ x W, Calls Tryz.prog k #[lkV x] W fun e w'' => e = .returned (.bool (p x)) ∧ Below W.heap.size W w''
theorem enters_of9 {P : Program} {f : FuncId} {fn : Func} {c : Code} (hf : P.funcs[f]? = some fn) (hname : (fn.name == "runtime.NumGoroutine") = false) (hb : fn.body = some c) (args : Array Value) (w : World) :
    (callFunc f args).run P w = .ok (.enter f args) w := by
  have h1 : ¬ fn.name = "runtime.NumGoroutine" := by simpa using hname
  simp [callFunc, go_sem, hf, h1, hb]
theorem cAway : CondK 172 delK := ⟨fun args w' => enters_of9 Tryz.func172 (by kernel_rfl) rfl args w', fun x W => away_any x W⟩
theorem cPutin : CondK 173 insK := ⟨fun args w' => enters_of9 Tryz.func173 (by kernel_rfl) rfl args w', fun x W => putin_any x W⟩
theorem cKept : CondK 185 kepK := ⟨fun args w' => enters_of9 Tryz.func185 (by kernel_rfl) rfl args w', fun x W => kept_any x W⟩
theorem cVoice : CondK 174 vchK := ⟨fun args w' => enters_of9 Tryz.func174 (by kernel_rfl) rfl args w', fun x W => voice_any x W⟩
set_option maxHeartbeats 4000000 in
/-- How many links of a row meet a condition. -/
theorem countLinks_any (q : Nat) (p : DLink → Bool) (hp : CondK q p) (l : List DLink) (v : Value) (F : Addr → Prop) (w : World) (hl : l.length ≤ 1048576) (hv : RowRd rLink false w v l F) :
    Calls Tryz.prog 170 #[v, .func (.func q) #[] #[]] w fun e w' => e = .returned (.int .i64 (cntL p l : Nat)) ∧ Below w.heap.size w w' := by
  obtain ⟨A, cap, rfl⟩ := hv.form
  have HV := Lib.hid hv
  clear hv
  have KP := Lib.hid hp.1
  have CP := Lib.hid hp.2
  clear hp
  have HX : Hid (∀ k, k < l.length → ∃ y, l[k]? = some y) := fun k hk => ⟨_, List.getElem?_eq_getElem hk⟩
  go_enter Tryz.func170, Tryz.ntmps170
  go_wp2
  go_loopw [5, 10] (fun c i wr => ∃ (k : Nat), k ≤ l.length ∧ i = .int .i64 k ∧ c = .int .i64 (cntL p (l.take k) : Nat) ∧ Below w.heap.size w wr) (fun _ i _ => l.length - (intOf i).toNat)
  case atStart => exact ⟨0, by omega, rfl, rfl, Below.refl _ _⟩
  case round =>
    obtain ⟨k, hk, rfl, rfl, hbe⟩ := hrel
    have HBE := Lib.hid hbe
    clear hbe
    have hel := cntL_le p l k
    by_cases hkl : k < l.length
    · obtain ⟨y, hy⟩ := HX.out k hkl
      obtain ⟨g, off, xs, Fk, rfl, _, hra, _, hca⟩ := (HV.out.kept HBE.out).get hy
      obtain rfl := rLink_rd hra
      rw [rLink_size] at hca
      have c0 := hca 0 _ rfl
      have c1 := hca 1 _ rfl
      simp only [Nat.add_zero] at c0
      have HEY : Hid (p y = true → cntL p (l.take (k + 1)) = cntL p (l.take k) + 1) := fun h => cntL_yes hy h
      have HEN : Hid (p y = false → cntL p (l.take (k + 1)) = cntL p (l.take k)) := fun h => cntL_no hy h
      have CY : Hid (∀ W, Calls Tryz.prog q #[lkV y] W fun e w'' => e = .returned (.bool (p y)) ∧ Below W.heap.size W w'') := fun W => CP.out y W
      clear hca hra hy
      unfold lkV at CY
      generalize cntL p (l.take k) = E0 at *
      generalize (y.In.toNat : Int) = a at *
      generalize (y.Out.toNat : Int) = b at *
      generalize p y = r at *
      go_wp2_with fail
      rw [KP.out, Oper.upon_enter]
      refine (CY.out _).mono ?_
      rintro e w2 ⟨rfl, hb2⟩
      have HB2 : Hid (Below w.heap.size w w2) := below_step (HBE.out.alloc HBE.out.size _) hb2
      clear hb2
      cases r
      · have HE := Lib.hid (HEN.out rfl)
        go_wp2
        go_roundw
        case rel => exact ⟨k + 1, by omega, by go_num, by rw [HE.out], HB2.out⟩
        case measure => simp [intOf]; omega
      · have HE := Lib.hid (HEY.out rfl)
        go_wp2
        go_roundw
        case rel => exact ⟨k + 1, by omega, by go_num, by rw [HE.out]; go_num, HB2.out⟩
        case measure => simp [intOf]; omega
    · obtain rfl : k = l.length := by omega
      rw [List.take_length] at *
      go_wp2
      go_ret
      exact ⟨rfl, HBE.out⟩
/-- The links of a valid candidate, none of another. -/
def valL (l : List DLink) : List DLink := if isCd l then l else []
theorem valid_any (l : List DLink) (v : Value) (F : Addr → Prop) (w : World) (hl : l.length ≤ 1048576) (hv : RowRd rLink false w v l F) :
    Calls Tryz.prog 171 #[.agg #[v]] w fun e w' => ∃ u, e = .returned u ∧ RowRd rLink false w' u (valL l) F ∧ Below w.heap.size w w' := by
  have HIS : Hid (∀ W, Below w.heap.size w W → Calls Tryz.prog 80 #[.agg #[v]] W fun e w' => e = .returned (.bool (isCd l)) ∧ Below W.heap.size W w') := fun W hW => implIsCd_any ⟨l⟩ v F W hl (hv.kept hW)
  obtain ⟨A, cap, rfl⟩ := hv.form
  have HV : Hid (∀ W, Below w.heap.size w W → RowRd rLink false W (.slice A l.length cap) l F) := fun W hW => hv.kept hW
  clear hv
  have HR : Hid (valL l = if isCd l then l else []) := rfl
  generalize isCd l = c at *
  generalize valL l = r at *
  have HB : Hid (Below w.heap.size w (w.alloc (.cells #[.slice A l.length cap] 55))) := (Below.refl _ _).alloc (Nat.le_refl _) _
  have HX : Hid (InC (w.alloc (.cells #[.slice A l.length cap] 55)) w.heap.size #[.slice A l.length cap] 55) := heap_alloc_new _ _
  go_enter Tryz.func171, Tryz.ntmps171
  go_wp2_with fail
  refine (HIS.out _ HB.out).mono ?_
  rintro e w2 ⟨rfl, hb2⟩
  have c0 := (HX.out.kept hb2).cell 0 rfl
  have HB2 : Hid (Below w.heap.size w w2) := below_step HB.out hb2
  clear hb2
  cases c
  · go_wp2_with fail
    go_ret
    exact ⟨_, rfl, by rw [HR.out]; exact RowRd.nil _ _ _, HB2.out⟩
  · go_wp2_with fail
    go_ret
    exact ⟨_, rfl, by rw [HR.out]; exact HV.out _ HB2.out, HB2.out⟩
theorem cnt_val (p : DLink → Bool) (l : List DLink) : cntL p (valL l) = cntC p l := by
  unfold valL cntC; split <;> rfl
theorem val_len (l : List DLink) : (valL l).length ≤ l.length := by
  unfold valL; split <;> simp
end Go.Proofs.YtkaihnlknncfdaaGreatDoor

/- The program's counts of links, and its IsFaithful: what they answer. -/
namespace Go.Proofs.YtkaihnlknncfdaaGreatDoor
set_option maxRecDepth 100000
open Go.RowKit M
set_option linter.unusedVariables false
set_option linter.unusedSimpArgs false
set_option maxRecDepth 100000

/-- Whether a candidate is valid and has no edits. -/
theorem implDeleted_any (x : DCandidate) (v : Value) (F : Addr → Prop) (w : World) (hl : x.Links.length ≤ 1048576) (hv : RowRd rLink false w v x.Links F) :
    Calls Tryz.prog 153 #[.agg #[v]] w fun e w' => e = .returned (.int .i64 (cntC delK x.Links : Nat)) ∧ Below w.heap.size w w' := by
  have HV : Hid (∀ W, Below w.heap.size w W → Calls Tryz.prog 171 #[.agg #[v]] W fun e w' => ∃ u, e = .returned u ∧ RowRd rLink false w' u (valL x.Links) F ∧ Below W.heap.size W w') := fun W hW => valid_any x.Links v F W hl (hv.kept hW)
  have HE : Hid (cntL delK (valL x.Links) = cntC delK x.Links) := cnt_val _ _
  have HN : Hid ((valL x.Links).length ≤ 1048576) := Nat.le_trans (val_len _) hl
  obtain ⟨A, cap, rfl⟩ := hv.form
  clear hv
  generalize valL x.Links = m at *
  generalize cntC delK x.Links = r at *
  have HB : Hid (Below w.heap.size w (w.alloc (.cells #[.slice A x.Links.length cap] 55))) := (Below.refl _ _).alloc (Nat.le_refl _) _
  go_enter Tryz.func153, Tryz.ntmps153
  go_wp2_with fail
  refine (HV.out _ HB.out).mono ?_
  rintro e w2 ⟨u, rfl, hu, hb2⟩
  have HB2 : Hid (Below w.heap.size w w2) := below_step HB.out hb2
  have HU := Lib.hid hu
  clear hb2 hu
  go_wp2_with fail
  refine (countLinks_any _ _ cAway m u F w2 HN.out HU.out).mono ?_
  rintro e w3 ⟨rfl, hb3⟩
  have HB3 : Hid (Below w.heap.size w w3) := below_step HB2.out hb3
  clear hb3
  go_wp2_with fail
  go_ret
  exact ⟨by rw [HE.out] <;> rfl, HB3.out⟩
theorem implInserted_any (x : DCandidate) (v : Value) (F : Addr → Prop) (w : World) (hl : x.Links.length ≤ 1048576) (hv : RowRd rLink false w v x.Links F) :
    Calls Tryz.prog 154 #[.agg #[v]] w fun e w' => e = .returned (.int .i64 (cntC insK x.Links : Nat)) ∧ Below w.heap.size w w' := by
  have HV : Hid (∀ W, Below w.heap.size w W → Calls Tryz.prog 171 #[.agg #[v]] W fun e w' => ∃ u, e = .returned u ∧ RowRd rLink false w' u (valL x.Links) F ∧ Below W.heap.size W w') := fun W hW => valid_any x.Links v F W hl (hv.kept hW)
  have HE : Hid (cntL insK (valL x.Links) = cntC insK x.Links) := cnt_val _ _
  have HN : Hid ((valL x.Links).length ≤ 1048576) := Nat.le_trans (val_len _) hl
  obtain ⟨A, cap, rfl⟩ := hv.form
  clear hv
  generalize valL x.Links = m at *
  generalize cntC insK x.Links = r at *
  have HB : Hid (Below w.heap.size w (w.alloc (.cells #[.slice A x.Links.length cap] 55))) := (Below.refl _ _).alloc (Nat.le_refl _) _
  go_enter Tryz.func154, Tryz.ntmps154
  go_wp2_with fail
  refine (HV.out _ HB.out).mono ?_
  rintro e w2 ⟨u, rfl, hu, hb2⟩
  have HB2 : Hid (Below w.heap.size w w2) := below_step HB.out hb2
  have HU := Lib.hid hu
  clear hb2 hu
  go_wp2_with fail
  refine (countLinks_any _ _ cPutin m u F w2 HN.out HU.out).mono ?_
  rintro e w3 ⟨rfl, hb3⟩
  have HB3 : Hid (Below w.heap.size w w3) := below_step HB2.out hb3
  clear hb3
  go_wp2_with fail
  go_ret
  exact ⟨by rw [HE.out] <;> rfl, HB3.out⟩
theorem implVoiceChanged_any (x : DCandidate) (v : Value) (F : Addr → Prop) (w : World) (hl : x.Links.length ≤ 1048576) (hv : RowRd rLink false w v x.Links F) :
    Calls Tryz.prog 155 #[.agg #[v]] w fun e w' => e = .returned (.int .i64 (cntC vchK x.Links : Nat)) ∧ Below w.heap.size w w' := by
  have HV : Hid (∀ W, Below w.heap.size w W → Calls Tryz.prog 171 #[.agg #[v]] W fun e w' => ∃ u, e = .returned u ∧ RowRd rLink false w' u (valL x.Links) F ∧ Below W.heap.size W w') := fun W hW => valid_any x.Links v F W hl (hv.kept hW)
  have HE : Hid (cntL vchK (valL x.Links) = cntC vchK x.Links) := cnt_val _ _
  have HN : Hid ((valL x.Links).length ≤ 1048576) := Nat.le_trans (val_len _) hl
  obtain ⟨A, cap, rfl⟩ := hv.form
  clear hv
  generalize valL x.Links = m at *
  generalize cntC vchK x.Links = r at *
  have HB : Hid (Below w.heap.size w (w.alloc (.cells #[.slice A x.Links.length cap] 55))) := (Below.refl _ _).alloc (Nat.le_refl _) _
  go_enter Tryz.func155, Tryz.ntmps155
  go_wp2_with fail
  refine (HV.out _ HB.out).mono ?_
  rintro e w2 ⟨u, rfl, hu, hb2⟩
  have HB2 : Hid (Below w.heap.size w w2) := below_step HB.out hb2
  have HU := Lib.hid hu
  clear hb2 hu
  go_wp2_with fail
  refine (countLinks_any _ _ cVoice m u F w2 HN.out HU.out).mono ?_
  rintro e w3 ⟨rfl, hb3⟩
  have HB3 : Hid (Below w.heap.size w w3) := below_step HB2.out hb3
  clear hb3
  go_wp2_with fail
  go_ret
  exact ⟨by rw [HE.out] <;> rfl, HB3.out⟩
end Go.Proofs.YtkaihnlknncfdaaGreatDoor

/- The program's CountBreaks: what it answers. -/
namespace Go.Proofs.YtkaihnlknncfdaaGreatDoor
set_option maxRecDepth 100000
open Go.RowKit M
set_option linter.unusedVariables false
set_option linter.unusedSimpArgs false
set_option maxRecDepth 100000

/-- Some places of a row, one after the other. -/
theorem RowRd.sub {α : Type} {E : Rep α} {w : World} {g off n cap : Nat} {l : List α} {F : Addr → Prop} (h : RowRd E false w (.slice (some ⟨g, off, none⟩) n cap) l F) (f e c : Nat) (he : e ≤ l.length) (hc : e - f ≤ c) :
    RowRd E false w (.slice (some ⟨g, off + f * E.size, none⟩) (e - f) c) ((l.take e).drop f) F := by
  have hm := h.max
  obtain ⟨A', cap', Fk, hv, _, hr⟩ := h
  cases hv
  have hlen : ((l.take e).drop f).length = e - f := by rw [List.length_drop, List.length_take]; omega
  refine ⟨some ⟨g, off + f * E.size, none⟩, c, fun k => Fk (f + k), by rw [hlen], ⟨by rw [hlen]; omega, (fun h => by cases h), by rw [hlen]; exact hc⟩, fun k x hk => ?_⟩
  have hk1 : k < e - f := by rw [← hlen]; exact (List.getElem?_eq_some_iff.1 hk).1
  rw [List.getElem?_drop, List.getElem?_take, if_pos (by omega)] at hk
  obtain ⟨g2, off2, xs, ha, h1, h2, h3, h4⟩ := hr (f + k) x hk
  cases ha
  refine ⟨g, off + f * E.size, xs, rfl, h1, h2, fun j u hj => ?_, fun h => by cases h⟩
  have h5 := h3 j u hj
  rw [Nat.add_mul, ← Nat.add_assoc] at h5
  exact ⟨h5.1, h5.2.1, fun h => by cases h⟩
def idxI (p : DLink → Bool) (l : List DLink) : Int := if l.findIdx p < l.length then (l.findIdx p : Nat) else -1
theorem idx_none {p : DLink → Bool} {l : List DLink} (h : ∀ (j : Nat) (y : DLink), j < l.length → l[j]? = some y → p y = false) : idxI p l = -1 := by
  have h1 : l.findIdx p = l.length := by
    rw [List.findIdx_eq_length]
    intro x hx
    obtain ⟨j, hj, rfl⟩ := List.getElem_of_mem hx
    exact h j _ hj (List.getElem?_eq_getElem hj)
  unfold idxI; rw [if_neg (by omega)]
theorem idx_some {p : DLink → Bool} {l : List DLink} {f : Nat} {x : DLink} (h : l[f]? = some x) (hx : p x = true) (hf : ∀ (j : Nat) (y : DLink), j < f → l[j]? = some y → p y = false) : idxI p l = f := by
  obtain ⟨hl, rfl⟩ := List.getElem?_eq_some_iff.1 h
  have h1 : l.findIdx p = f := by
    rw [List.findIdx_eq hl]
    exact ⟨hx, fun j hj => hf j _ hj (List.getElem?_eq_getElem (by omega))⟩
  unfold idxI; rw [h1, if_pos hl]
set_option maxHeartbeats 4000000 in
theorem indexFunc_any (q : Nat) (p : DLink → Bool) (hp : CondK q p) (l : List DLink) (v : Value) (F : Addr → Prop) (w : World) (hl : l.length ≤ 1048576) (hv : RowRd rLink false w v l F) :
    Calls Tryz.prog 186 #[v, .func (.func q) #[] #[]] w fun e w' => e = .returned (.int .i64 (idxI p l)) ∧ Below w.heap.size w w' := by
  obtain ⟨A, cap, rfl⟩ := hv.form
  have HV := Lib.hid hv
  clear hv
  have KP := Lib.hid hp.1
  have CP := Lib.hid hp.2
  clear hp
  have HX : Hid (∀ k, k < l.length → ∃ y, l[k]? = some y) := fun k hk => ⟨_, List.getElem?_eq_getElem hk⟩
  have HN : Hid ((∀ (j : Nat) (y : DLink), j < l.length → l[j]? = some y → p y = false) → idxI p l = -1) := idx_none
  have HS : Hid (∀ (f : Nat) (x : DLink), l[f]? = some x → p x = true → (∀ (j : Nat) (y : DLink), j < f → l[j]? = some y → p y = false) → idxI p l = f) := fun f x => idx_some
  generalize idxI p l = r at *
  go_enter Tryz.func186, Tryz.ntmps186
  go_wp2
  go_loopw [8] (fun i wr => ∃ (k : Nat), k ≤ l.length ∧ i = .int .i64 k ∧ Hid (∀ (j : Nat) (y : DLink), j < k → l[j]? = some y → p y = false) ∧ Below w.heap.size w wr) (fun i _ => l.length - (intOf i).toNat)
  case atStart => exact ⟨0, by omega, rfl, fun j y hj => by omega, Below.refl _ _⟩
  case round =>
    obtain ⟨k, hk, rfl, hno, hbe⟩ := hrel
    have HBE := Lib.hid hbe
    clear hbe
    by_cases hkl : k < l.length
    · obtain ⟨y, hy⟩ := HX.out k hkl
      obtain ⟨g, off, xs, Fk, rfl, _, hra, _, hca⟩ := (HV.out.kept HBE.out).get hy
      obtain rfl := rLink_rd hra
      rw [rLink_size] at hca
      have c0 := hca 0 _ rfl
      have c1 := hca 1 _ rfl
      simp only [Nat.add_zero] at c0
      have HY : Hid (p y = true → r = k) := fun h => HS.out k y hy h hno.out
      have HM : Hid (p y = false → ∀ (j : Nat) (z : DLink), j < k + 1 → l[j]? = some z → p z = false) := fun h j z hj hz => by
        by_cases hjk : j = k
        · subst hjk; rw [hy] at hz; cases hz; exact h
        · exact hno.out j z (by omega) hz
      have CY : Hid (∀ W, Calls Tryz.prog q #[lkV y] W fun e w'' => e = .returned (.bool (p y)) ∧ Below W.heap.size W w'') := fun W => CP.out y W
      clear hca hra hy
      unfold lkV at CY
      generalize (y.In.toNat : Int) = a at *
      generalize (y.Out.toNat : Int) = b at *
      generalize p y = c at *
      go_wp2_with fail
      rw [KP.out, Oper.upon_enter]
      refine (CY.out _).mono ?_
      rintro e w2 ⟨rfl, hb2⟩
      have HB2 : Hid (Below w.heap.size w w2) := below_step HBE.out hb2
      clear hb2
      cases c
      · have HE := Lib.hid (HM.out rfl)
        go_wp2
        go_roundw
        case rel => exact ⟨k + 1, by omega, by go_num, HE, HB2.out⟩
        case measure => simp [intOf]; omega
      · have HE := Lib.hid (HY.out rfl)
        go_wp2
        go_ret
        exact ⟨by rw [HE.out]; rfl, HB2.out⟩
    · obtain rfl : k = l.length := by omega
      have HE := Lib.hid (HN.out hno.out)
      go_wp2
      go_ret
      exact ⟨by rw [HE.out]; rfl, HBE.out⟩
theorem valid_cap (l : List DLink) (A : Option Addr) (cap : Nat) (F : Addr → Prop) (w : World) (hl : l.length ≤ 1048576) (hcap : l.length ≤ cap) (hv : RowRd rLink false w (.slice A l.length cap) l F) :
    Calls Tryz.prog 171 #[.agg #[.slice A l.length cap]] w fun e w' => ∃ A2 c2, e = .returned (.slice A2 (valL l).length c2) ∧ (valL l).length ≤ c2 ∧ RowRd rLink false w' (.slice A2 (valL l).length c2) (valL l) F ∧ Below w.heap.size w w' := by
  have HIS : Hid (∀ W, Below w.heap.size w W → Calls Tryz.prog 80 #[.agg #[.slice A l.length cap]] W fun e w' => e = .returned (.bool (isCd l)) ∧ Below W.heap.size W w') := fun W hW => implIsCd_any ⟨l⟩ _ F W hl (hv.kept hW)
  have HV : Hid (∀ W, Below w.heap.size w W → RowRd rLink false W (.slice A l.length cap) l F) := fun W hW => hv.kept hW
  clear hv
  have HR : Hid (valL l = if isCd l then l else []) := rfl
  generalize isCd l = c at *
  generalize valL l = r at *
  have HB : Hid (Below w.heap.size w (w.alloc (.cells #[.slice A l.length cap] 55))) := (Below.refl _ _).alloc (Nat.le_refl _) _
  have HX : Hid (InC (w.alloc (.cells #[.slice A l.length cap] 55)) w.heap.size #[.slice A l.length cap] 55) := heap_alloc_new _ _
  go_enter Tryz.func171, Tryz.ntmps171
  go_wp2_with fail
  refine (HIS.out _ HB.out).mono ?_
  rintro e w2 ⟨rfl, hb2⟩
  have c0 := (HX.out.kept hb2).cell 0 rfl
  have HB2 : Hid (Below w.heap.size w w2) := below_step HB.out hb2
  clear hb2
  cases c
  · obtain rfl : r = [] := HR.out
    go_wp2_with fail
    go_ret
    exact ⟨none, 0, rfl, Nat.le_refl _, RowRd.nil _ _ _, HB2.out⟩
  · obtain rfl : r = l := HR.out
    go_wp2_with fail
    go_ret
    exact ⟨A, cap, rfl, hcap, HV.out _ HB2.out, HB2.out⟩
set_option maxHeartbeats 4000000 in
theorem inside_any (l : List DLink) (A : Option Addr) (cap : Nat) (F : Addr → Prop) (w : World) (hl : l.length ≤ 1048576) (hcap : l.length ≤ cap) (hv : RowRd rLink false w (.slice A l.length cap) l F) :
    Calls Tryz.prog 175 #[.slice A l.length cap] w fun e w' => ∃ u, e = .returned u ∧ RowRd rLink false w' u (insideL l) F ∧ Below w.heap.size w w' := by
  have HV := Lib.hid hv
  have HIX := Lib.hid (indexFunc_any _ _ cKept l _ F w hl hv)
  clear hv
  have HK : Hid (∀ (y : DLink) W, Calls Tryz.prog 185 #[lkV y] W fun e w'' => e = .returned (.bool (kepK y)) ∧ Below W.heap.size W w'') := fun y W => kept_any y W
  go_enter Tryz.func175, Tryz.ntmps175
  go_wp2_with fail
  refine HIX.out.mono ?_
  rintro e w2 ⟨rfl, hb2⟩
  have HB2 := Lib.hid hb2
  clear hb2
  by_cases hf : l.findIdx kepK < l.length
  case neg =>
    have HI : Hid (idxI kepK l = -1) := by unfold Hid idxI; rw [if_neg hf]
    have HE : Hid (insideL l = []) := inside_none fun j y hy => by
      have h1 : l.findIdx kepK = l.length := Nat.le_antisymm List.findIdx_le_length (by omega)
      rw [List.findIdx_eq_length] at h1
      exact h1 y (List.mem_of_getElem? hy)
    rw [HI.out]
    go_wp2_with fail
    go_ret
    exact ⟨_, rfl, by rw [HE.out]; exact RowRd.nil _ _ _, HB2.out⟩
  have HI : Hid (idxI kepK l = (l.findIdx kepK : Nat)) := by unfold Hid idxI; rw [if_pos hf]
  have hfx : l[l.findIdx kepK]? = some l[l.findIdx kepK] := List.getElem?_eq_getElem hf
  have hkx : kepK l[l.findIdx kepK] = true := List.findIdx_getElem
  have hnx : ∀ (j : Nat) (z : DLink), j < l.findIdx kepK → l[j]? = some z → kepK z = false := fun j z hj hz => by
    have h1 := List.not_of_lt_findIdx hj
    obtain ⟨h2, rfl⟩ := List.getElem?_eq_some_iff.1 hz
    simpa using h1
  have HIN : Hid (∀ (e : Nat) (y : DLink), l[e]? = some y → kepK y = true → (∀ (j : Nat) (z : DLink), e < j → l[j]? = some z → kepK z = false) → insideL l = (l.take (e + 1)).drop (l.findIdx kepK)) := fun e y hy ky he => inside_is hfx hkx hnx hy ky he
  have HFK : Hid (∀ (j : Nat) (y : DLink), l[j]? = some y → j = l.findIdx kepK → kepK y = true) := fun j y hy hj => by
    subst hj; rw [hfx] at hy; cases hy; exact hkx
  have HX : Hid (∀ k, k < l.length → ∃ y, l[k]? = some y) := fun k hk => ⟨_, List.getElem?_eq_getElem hk⟩
  rw [HI.out]
  clear HI hfx hkx hnx HIX
  generalize hfv : l.findIdx kepK = f at *
  have HRW : Hid (RowRd rLink false w2 (.slice A l.length cap) l F) := HV.out.kept HB2.out
  go_wp2_with fail
  go_loopw [4] (fun i wr => ∃ (k : Nat), f < k ∧ k ≤ l.length ∧ i = .int .i64 k ∧ Hid (∀ (j : Nat) (z : DLink), k ≤ j → l[j]? = some z → kepK z = false) ∧ Below w.heap.size w wr) (fun i _ => (intOf i).toNat)
  case atStart => exact ⟨l.length, hf, Nat.le_refl _, rfl, fun j z hj hz => by have := (List.getElem?_eq_some_iff.1 hz).1; omega, HB2.out⟩
  case round =>
    obtain ⟨k, hk0, hk, rfl, hno, hbe⟩ := hrel
    have HBE := Lib.hid hbe
    clear hbe
    obtain ⟨e, rfl⟩ : ∃ e, k = e + 1 := ⟨k - 1, by omega⟩
    obtain ⟨y, hy⟩ := HX.out e (by omega)
    have HRR : Hid (RowRd rLink false wr (.slice A l.length cap) l F) := HV.out.kept HBE.out
    obtain ⟨g, off, xs, Fk, rfl, _, hra, _, hca⟩ := HRR.out.get hy
    obtain rfl := rLink_rd hra
    rw [rLink_size] at hca
    have c0 := hca 0 _ rfl
    have c1 := hca 1 _ rfl
    simp only [Nat.add_zero] at c0
    have HNY : Hid (kepK y = false → f < e ∧ ∀ (j : Nat) (z : DLink), e ≤ j → l[j]? = some z → kepK z = false) := fun h => by
      refine ⟨?_, fun j z hj hz => ?_⟩
      · rcases Nat.lt_or_ge f e with h1 | h1
        · exact h1
        · have h2 := HFK.out e y hy (by omega)
          rw [h] at h2; cases h2
      · by_cases hje : j = e
        · subst hje; rw [hy] at hz; cases hz; exact h
        · exact hno.out j z (by omega) hz
    have HYY : Hid (kepK y = true → insideL l = (l.take (e + 1)).drop f) := fun h => HIN.out e y hy h fun j z hj hz => hno.out j z (by omega) hz
    have CY : Hid (∀ W, Calls Tryz.prog 185 #[lkV y] W fun e w'' => e = .returned (.bool (kepK y)) ∧ Below W.heap.size W w'') := fun W => HK.out y W
    clear hca hra hy
    unfold lkV at CY
    generalize (y.In.toNat : Int) = a at *
    generalize (y.Out.toNat : Int) = b at *
    generalize kepK y = c at *
    have e1 : ((e + 1 : Nat) : Int) - 1 = (e : Nat) := by omega
    have e2 : IntKind.i64.wrap (((e + 1 : Nat) : Int) - 1) = ((e : Nat) : Int) := by rw [e1, IntWalk.i64_in _ (by omega)]
    go_wp2_with fail
    refine (CY.out _).mono ?_
    rintro e' w3 ⟨rfl, hb3⟩
    have HB3 : Hid (Below w.heap.size w w3) := below_step HBE.out hb3
    have HR3 := Lib.hid (HRR.out.kept hb3)
    clear hb3
    cases c
    · have HE := Lib.hid (HNY.out rfl)
      go_wp2
      go_roundw
      case rel => exact ⟨e, HE.out.1, by omega, by go_num, HE.out.2, HB3.out⟩
      case measure => simp [intOf]
    · have HE := Lib.hid (HYY.out rfl)
      have hle : e + 1 ≤ l.length := hk
      have h1 : ((e + 1 : Nat) : Int) ≤ (cap : Nat) := by omega
      have h2 : (0 : Int) ≤ ((e + 1 : Nat) : Int) := by omega
      have h3 : (f : Int) ≤ ((e + 1 : Nat) : Int) := by omega
      have h4 : (0 : Int) ≤ (f : Int) := by omega
      have h5 : ¬ e + 1 = f := by omega
      have HSUB := Lib.hid (HR3.out.sub f (e + 1) (e + 1 - f) hle (Nat.le_refl _))
      go_wp2
      go_ret
      refine ⟨_, rfl, ?_, HB3.out⟩
      rw [HE.out]
      exact HSUB.out
theorem implBreaks_any (x : DCandidate) (A : Option Addr) (cap : Nat) (F : Addr → Prop) (w : World) (hl : x.Links.length ≤ 1048576) (hcap : x.Links.length ≤ cap) (hv : RowRd rLink false w (.slice A x.Links.length cap) x.Links F) :
    Calls Tryz.prog 156 #[.agg #[.slice A x.Links.length cap]] w fun e w' => e = .returned (.int .i64 (brkC x.Links : Nat)) ∧ Below w.heap.size w w' := by
  have HV : Hid (∀ W, Below w.heap.size w W → Calls Tryz.prog 171 #[.agg #[.slice A x.Links.length cap]] W fun e w' => ∃ A2 c2, e = .returned (.slice A2 (valL x.Links).length c2) ∧ (valL x.Links).length ≤ c2 ∧ RowRd rLink false w' (.slice A2 (valL x.Links).length c2) (valL x.Links) F ∧ Below W.heap.size W w') := fun W hW => valid_cap x.Links A cap F W hl hcap (hv.kept hW)
  have HN : Hid ((valL x.Links).length ≤ 1048576) := Nat.le_trans (val_len _) hl
  have HM : Hid ((insideL (valL x.Links)).length ≤ 1048576) := by
    have h1 : (insideL (valL x.Links)).length ≤ (valL x.Links).length := by unfold insideL; rw [List.length_drop, List.length_take]; omega
    exact Nat.le_trans h1 HN.out
  have HE : Hid (brkC x.Links = cntL delK (insideL (valL x.Links)) + cntL insK (insideL (valL x.Links))) := by
    unfold Hid brkC valL
    cases h : isCd x.Links
    · rfl
    · exact brk_two h
  have HLE : Hid (cntL delK (insideL (valL x.Links)) ≤ 1048576 ∧ cntL insK (insideL (valL x.Links)) ≤ 1048576) := ⟨Nat.le_trans List.countP_le_length HM.out, Nat.le_trans List.countP_le_length HM.out⟩
  clear hv
  generalize valL x.Links = m at *
  generalize brkC x.Links = r at *
  have HB : Hid (Below w.heap.size w (w.alloc (.cells #[.slice A x.Links.length cap] 55))) := (Below.refl _ _).alloc (Nat.le_refl _) _
  go_enter Tryz.func156, Tryz.ntmps156
  go_wp2_with fail
  refine (HV.out _ HB.out).mono ?_
  rintro e w2 ⟨A2, c2, rfl, hc2, hu, hb2⟩
  have HB2 : Hid (Below w.heap.size w w2) := below_step HB.out hb2
  have HU := Lib.hid hu
  have HC2 := Lib.hid hc2
  clear hb2 hu hc2
  go_wp2_with fail
  refine (inside_any m A2 c2 F w2 HN.out HC2.out HU.out).mono ?_
  rintro e w3 ⟨u, rfl, hu, hb3⟩
  have HB3 : Hid (Below w.heap.size w w3) := below_step HB2.out hb3
  have HU3 := Lib.hid hu
  clear hb3 hu
  generalize insideL m = t at *
  go_wp2_with fail
  refine (countLinks_any _ _ cAway t u F w3 HM.out HU3.out).mono ?_
  rintro e w4 ⟨rfl, hb4⟩
  have HB4 : Hid (Below w.heap.size w w4) := below_step HB3.out hb4
  have HU4 := Lib.hid (HU3.out.kept hb4)
  clear hb4
  go_wp2_with fail
  refine (countLinks_any _ _ cPutin t u F w4 HM.out HU4.out).mono ?_
  rintro e w5 ⟨rfl, hb5⟩
  have HB5 : Hid (Below w.heap.size w w5) := below_step HB4.out hb5
  clear hb5
  have hle := HLE.out
  have HS : Hid (((cntL delK t : Nat) : Int) + ((cntL insK t : Nat) : Int) = ((r : Nat) : Int)) := by unfold Hid; rw [HE.out]; omega
  generalize cntL delK t = d at *
  generalize cntL insK t = i at *
  have hw : IntKind.i64.wrap ((d : Int) + (i : Int)) = ((r : Nat) : Int) := by rw [IntWalk.i64_in _ (by omega)]; exact HS.out
  go_wp2_with fail
  go_ret
  exact ⟨rfl, HB5.out⟩
end Go.Proofs.YtkaihnlknncfdaaGreatDoor

/- The program's InputOf, OutputOf: what they answer. -/
namespace Go.Proofs.YtkaihnlknncfdaaGreatDoor
set_option maxRecDepth 100000
open Go.RowKit M
set_option linter.unusedVariables false
set_option linter.unusedSimpArgs false

set_option maxHeartbeats 4000000 in
set_option maxHeartbeats 4000000 in
theorem implOutput_any (x : DCandidate) (v : Value) (F : Addr → Prop) (w : World) (hl : x.Links.length ≤ 1048576) (hv : RowRd rLink false w v x.Links F) :
    Calls Tryz.prog 63 #[.agg #[v]] w fun e w' => e = .returned (.string ⟨(outS x.Links).toArray⟩) ∧ Below w.heap.size w w' := by
  have HS0 : Hid (∀ W, Below w.heap.size w W → Calls Tryz.prog 80 #[.agg #[v]] W fun e w' => e = .returned (.bool (isCd x.Links)) ∧ Below W.heap.size W w') := fun W hW => implIsCd_any x _ F W hl (hv.kept hW)
  have HS1 : Hid (∀ W, Below w.heap.size w W → Calls Tryz.prog 106 #[v] W fun e w' => e = .returned (.tuple #[.string ⟨(inL x.Links).toArray⟩, .string ⟨(outL x.Links).toArray⟩]) ∧ Below W.heap.size W w') := fun W hW => implSides_any x.Links _ F W hl (hv.kept hW)
  obtain ⟨A, cap, rfl⟩ := hv.form
  clear hv
  have HE : Hid (outS x.Links = if isCd x.Links then outL x.Links else []) := rfl
  generalize isCd x.Links = c at *
  generalize outS x.Links = r at *
  have HA : Hid (∀ o, Below w.heap.size w (w.alloc o)) := fun o => (Below.refl _ _).alloc (Nat.le_refl _) _
  have HA1 : Hid (InC (w.alloc (.cells #[.slice A x.Links.length cap] 55)) w.heap.size #[.slice A x.Links.length cap] 55) := heap_alloc_new _ _
  go_enter Tryz.func63, Tryz.ntmps63
  go_wp2_with fail
  refine (HS0.out _ (HA.out _)).mono ?_
  rintro e w2 ⟨rfl, hb⟩
  have b1 := (HA1.out.kept hb).cell 0 rfl
  have HB : Hid (Below w.heap.size w w2) := below_step (HA.out _) hb
  clear hb
  cases c
  · go_wp2_with fail
    go_ret
    exact ⟨ret_str (by rw [HE.out] <;> rfl), HB.out⟩
  · go_wp2_with fail
    refine (HS1.out _ HB.out).mono ?_
    rintro e w3 ⟨rfl, hb⟩
    have HB3 : Hid (Below w.heap.size w w3) := below_step HB.out hb
    clear hb
    go_wp2_with fail
    go_ret
    exact ⟨ret_str (by rw [HE.out] <;> rfl), HB3.out⟩
end Go.Proofs.YtkaihnlknncfdaaGreatDoor
