/- Merged: Rm11 Ct11 Ic5i Tp11 Ro11 Rp11 TzStringS Tz0 TzLinkS. -/
import Derived.Test.YtcgmlhlnkbjfnaaGreatDoorQ5
import Derived.Test.YtcgmlhlnkbjfnaaGreatDoorQ8
import Derived.Laws.EntriesVeiled
import Derived.Test.YtcgmlhlnkbjfnaaGreatDoorQ7
import Derived.Test.YtcgmlhlnkbjfnaaGreatDoorQ4
import Derived.Deep.DeepCutAuto
import Derived.Deep.RegionHeld3
import Derived.Deep.RegionWith
import Derived.Test.YtcgmlhlnkbjfnaaGreatDoorQ1
import Derived.Test.YtcgmlhlnkbjfnaaGreatDoorQ2
import Derived.WalkKit
import Derived.BigQuiet
import Derived.Test.YtcgmlhlnkbjfnaaGreatDoorRows
import Derived.Lib.QuietBelow
/- The model's RowWith: what it answers. -/
namespace Go.Proofs.YtcgmlhlnkbjfnaaGreatDoor
set_option maxRecDepth 100000
open Go.RowKit Go.Sort M
set_option linter.unusedVariables false
set_option linter.unusedSimpArgs false

set_option maxHeartbeats 16000000 in
theorem specRw_any (x : DTableau) (A1 : Option Addr) (c1 : Nat) (A2 : Option Addr) (c2 : Nat) (A3 : Option Addr) (c3 : Nat) (F1 F2 F3 : Addr → Prop) (out : ByteArray) (w : World) (hm : rTableau.sz x ≤ 1048576) (hv : TabRd false w (.slice A1 x.Names.length c1) (.slice A2 x.Rows.length c2) (.slice A3 x.Marks.length c3) x F1 F2 F3) :
    Calls Tryz.prog 22 #[.agg #[.string x.Input, .slice A1 x.Names.length c1, .slice A2 x.Rows.length c2, .slice A3 x.Marks.length c3], .string out] w fun e w' => e = .returned (.int .i64 (rowW x out)) ∧ Below w.heap.size w w' := by
  obtain ⟨hz0, hz1, hz2, hz3, hz4, hz5⟩ := szTab_parts hm
  have HZ4 := Lib.hid hz4
  have HV := Lib.hid hv
  have HIT : Hid (∀ W, Below w.heap.size w W → Calls Tryz.prog 19 #[.agg #[.string x.Input, .slice A1 x.Names.length c1, .slice A2 x.Rows.length c2, .slice A3 x.Marks.length c3]] W fun e w' => e = .returned (.bool (isTab x)) ∧ Below W.heap.size W w') := fun W hW => specTab_any x A1 c1 A2 c2 A3 c3 F1 F2 F3 W hm (hv.kept hW)
  have HSO : Hid (∀ (c : DCandidate) (v : Value) (G : Addr → Prop) W, c.Links.length ≤ 1048576 → RowRd rLink false W v c.Links G → Calls Tryz.prog 64 #[.agg #[v]] W fun e w' => e = .returned (.string (outT c.Links)) ∧ Below W.heap.size W w') := fun c v G W hl hr => specOutput_any c v G W hl hr
  have HSE : Hid (∀ (c : DCandidate) (v : Value) (G : Addr → Prop) W, c.Links.length ≤ 1048576 → RowRd rLink false W v c.Links G → Calls Tryz.prog 65 #[.agg #[v]] W fun e w' => e = .returned (.int .i64 (edits c.Links : Nat)) ∧ Below W.heap.size W w') := fun c v G W hl hr => specEdits_any c v G W hl hr
  have HX2 : Hid (∀ k, k < x.Rows.length → ∃ y, x.Rows[k]? = some y) := fun k hk => ⟨_, List.getElem?_eq_getElem hk⟩
  have HRG := Lib.hid (bestTo_range x out)
  have HTK : Hid (∀ (k : Nat) (c : DCandidate), x.Rows[k]? = some c → (decide (outT c.Links = out) && (decide (bestTo x out k < 0) || decide ((edits c.Links : Int) < (edAt x (bestTo x out k).toNat : Int)))) = true → bestTo x out (k + 1) = (k : Int)) := fun k c h1 h2 => by
    simp only [Bool.and_eq_true, Bool.or_eq_true, decide_eq_true_eq] at h2
    exact bestTo_take (by rw [outAt_of h1]; exact h2.1) (h2.2.elim Or.inl fun h => Or.inr (by rw [edAt_of h1]; omega))
  have HKP : Hid (∀ (k : Nat) (c : DCandidate), x.Rows[k]? = some c → (decide (outT c.Links = out) && (decide (bestTo x out k < 0) || decide ((edits c.Links : Int) < (edAt x (bestTo x out k).toNat : Int)))) = false → bestTo x out (k + 1) = bestTo x out k) := fun k c h1 h2 => by
    refine bestTo_keep fun h3 => ?_
    rw [outAt_of h1, edAt_of h1] at h3
    have h4 : (decide (bestTo x out k < 0) || decide ((edits c.Links : Int) < (edAt x (bestTo x out k).toNat : Int))) = true := by
      rw [Bool.or_eq_true, decide_eq_true_eq, decide_eq_true_eq]
      exact h3.2.elim Or.inl fun h => Or.inr (by omega)
    rw [decide_eq_true h3.1, h4] at h2
    cases h2
  have HED : Hid (∀ (k : Nat) (c : DCandidate), x.Rows[k]? = some c → edAt x k = edits c.Links) := fun k c h => edAt_of h
  have HNO : Hid (∀ b, isTab x = b → b = false → rowW x out = -1) := fun b h1 h2 => rowW_no (h1.trans h2)
  have HYE : Hid (∀ b, isTab x = b → b = true → rowW x out = bestTo x out x.Rows.length ∧ 1 ≤ x.Rows.length) := fun b h1 h2 => ⟨rowW_yes (h1.trans h2), (headT_parts (headT_of (h1.trans h2))).2.2.1⟩
  have HN2 := Lib.hid (HNO.out _ rfl)
  have HY2 := Lib.hid (HYE.out _ rfl)
  clear hv hz4 hz5 hm HNO HYE
  generalize isTab x = t at *
  have HA : Hid (∀ o, Below w.heap.size w (w.alloc o)) := fun o => (Below.refl _ _).alloc (Nat.le_refl _) _
  have HA1 : Hid (InC (w.alloc (.cells #[.string x.Input, .slice A1 x.Names.length c1, .slice A2 x.Rows.length c2, .slice A3 x.Marks.length c3] 27)) w.heap.size #[.string x.Input, .slice A1 x.Names.length c1, .slice A2 x.Rows.length c2, .slice A3 x.Marks.length c3] 27) := heap_alloc_new _ _
  have H00 : Hid (bestTo x out 0 = -1) := rfl
  go_enter Tryz.func22, Tryz.ntmps22
  go_wp2
  go_loopw [5, 6] (fun u i wr => ∃ (k : Nat), k ≤ x.Rows.length ∧ i = .int .i64 k ∧ u = .int .i64 (bestTo x out k) ∧ (0 < k → t = true) ∧ InC wr w.heap.size #[.string x.Input, .slice A1 x.Names.length c1, .slice A2 x.Rows.length c2, .slice A3 x.Marks.length c3] 27 ∧ Below w.heap.size w wr) (fun _ i _ => x.Rows.length - (intOf i).toNat)
  case atStart => exact ⟨0, by omega, rfl, by rw [H00.out], fun h => by omega, HA1.out, HA.out _⟩
  case round =>
    obtain ⟨k, hk, rfl, rfl, hpos, hbox, hbe0⟩ := hrel
    obtain ⟨w2, rfl⟩ : ∃ w2 : World, w2 = wr := ⟨_, rfl⟩
    have HB := Lib.hid hbe0
    have HBX := Lib.hid hbox
    clear hbe0 hbox
    have hrg := HRG.out k
    by_cases hkl : k < x.Rows.length
    · have b2 := HBX.out.cell 2 rfl
      have b0 := HBX.out.cell 0 rfl
      have b1 := HBX.out.cell 1 rfl
      have b3 := HBX.out.cell 3 rfl
      generalize hq : bestTo x out k = q at *
      go_wp2_with fail
      refine (HIT.out _ HB.out).mono ?_
      rintro e w3 ⟨rfl, hb⟩
      have HB3 := Lib.hid (below_step HB.out hb)
      have HBX3 := Lib.hid (HBX.out.kept hb)
      clear hb b0 b1 b2 b3
      cases t with
      | false =>
        have hk0 : k = 0 := by rcases Nat.eq_zero_or_pos k with h | h; exact h; exact absurd (hpos h) (by simp)
        have HN : Hid (rowW x out = q) := by unfold Hid; rw [HN2.out rfl, ← hq, hk0]; rfl
        clear hq
        go_wp2_with fail
        go_ret
        exact ⟨ret_i64 HN.out.symm, HB3.out⟩
      | true =>
      obtain ⟨c, hc⟩ := HX2.out k hkl
      have HL := Lib.hid (HZ4.out k c hc)
      have HTK2 := Lib.hid (HTK.out k c hc)
      have HKP2 := Lib.hid (HKP.out k c hc)
      rw [hq] at HTK2 HKP2
      obtain ⟨g2, o2, xs2, G2, rfl, -, hr2', -, hc2⟩ := (HV.out.rows.kept HB3.out).get hc
      obtain ⟨v2, rfl, q2⟩ := rCandidate_rd hr2'
      rw [rCandidate_size] at hc2
      have d2 := hc2 0 _ rfl
      simp only [Nat.add_zero, Nat.mul_one] at d2
      have HC2 : Hid (∀ W : World, Below w3.heap.size w3 W → W.cell? ⟨g2, o2 + k, none⟩ = some v2) := fun W hW => cell_kept hW d2
      have HQ2 := Lib.hid q2
      have HW : Hid (∀ W : World, Below w3.heap.size w3 W → Below w.heap.size w W) := fun W hW => below_step HB3.out hW
      have HB2 : Hid (∀ W : World, Below w3.heap.size w3 W → W.cell? ⟨w.heap.size, 2, none⟩ = some (.slice (some ⟨g2, o2, none⟩) x.Rows.length c2)) := fun W hW => (HBX3.out.kept hW).cell 2 rfl
      have HIN : Hid (∀ W, Below w3.heap.size w3 W → Calls Tryz.prog 64 #[.agg #[v2]] W fun e w' => e = .returned (.string (outT c.Links)) ∧ Below W.heap.size W w') := fun W hW => HSO.out c v2 G2 W HL.out (HQ2.out.kept hW)
      have HIE : Hid (∀ W, Below w3.heap.size w3 W → Calls Tryz.prog 65 #[.agg #[v2]] W fun e w' => e = .returned (.int .i64 (edits c.Links : Nat)) ∧ Below W.heap.size W w') := fun W hW => HSE.out c v2 G2 W HL.out (HQ2.out.kept hW)
      have hne : ((outT c.Links).toList == out.toList) = decide (outT c.Links = out) := txt_eq _ _
      have hkr : (k : Int) < (x.Rows.length : Int) := by omega
      clear hc hr2' hc2 d2 q2
      have HY3 := Lib.hid (HY2.out rfl).1
      have HBEST : Hid (bestTo x out k = q) := hq
      clear hq HN2 HY2 HTK HKP
      generalize hbi : decide (outT c.Links = out) = bi at *
      clear hbi
      obtain ⟨p, hp, HPR⟩ : ∃ p : Bool, (bi && (decide (q < 0) || decide ((edits c.Links : Int) < (edAt x q.toNat : Int)))) = p ∧ True := ⟨_, rfl, trivial⟩
      have HP := Lib.hid hp
      go_upto_region 5 with fail
      go_cut [44] (fun b wx => b = .bool p ∧ Below w3.heap.size w3 wx)
      case first =>
        clear hp
        refine wp_region_held_drew (S := fun w' => Below w3.heap.size w3 w') (by kernel_rfl) ((Below.refl _ _).drew) (fun hHeld => ?_)
        cases bi
        · refine' wpAnyH_take (i := 0) (oi := _) (v := ?v1) rfl ?hs1 ?hf1 ?hr1 ?hQ1 (Or.inl ⟨?hw1, ?hy1⟩) hHeld ?rest1
          case hs1 => kernel_rfl
          case hf1 => kernel_rfl
          case hr1 => kernel_rfl
          case hQ1 => exact fun _ _ _ h => h
          case hw1 => kernel_rfl
          case hy1 => (intro w' hw'; go_simp; try with_reducible rfl)
          (try change wpAnyH _ _ _ _ _ _ _ (Act.put _ (some 18) _) _)
          try simp only [Act.put, List.setIfInBounds_toArray, List.set_cons_zero, List.set_cons_succ]
          refine' wpAnyH_take (i := 1) (oi := _) (v := ?v2) rfl ?hs2 ?hf2 ?hr2 ?hQ2 (Or.inl ⟨?hw2, ?hy2⟩) hHeld ?rest2
          case hs2 => kernel_rfl
          case hf2 => kernel_rfl
          case hr2 => kernel_rfl
          case hQ2 => exact fun _ _ _ h => h
          case hw2 => kernel_rfl
          case hy2 => (intro w' hw'; have c2' := HB2.out _ hw'; have c4' := HC2.out _ hw'; go_simp; try with_reducible rfl)
          (try change wpAnyH _ _ _ _ _ _ _ (Act.put _ (some 19) _) _)
          try simp only [Act.put, List.setIfInBounds_toArray, List.set_cons_zero, List.set_cons_succ]
          refine' wpAnyH_take (i := 2) (oi := _) (v := ?v3) rfl ?hs3 ?hf3 ?hr3 ?hQ3 (Or.inl ⟨?hw3, ?hy3⟩) hHeld ?rest3
          case hs3 => kernel_rfl
          case hf3 => kernel_rfl
          case hr3 => kernel_rfl
          case hQ3 => exact fun _ _ _ h => h
          case hw3 => kernel_rfl
          case hy3 => (intro w' hw'; go_simp; try with_reducible rfl)
          (try change wpAnyH _ _ _ _ _ _ _ (Act.put _ (some 20) _) _)
          try simp only [Act.put, List.setIfInBounds_toArray, List.set_cons_zero, List.set_cons_succ]
          refine' wpAnyH_take (i := 3) (oi := _) (v := ?v4) rfl ?hs4 ?hf4 ?hr4 ?hQ4 (Or.inl ⟨?hw4, ?hy4⟩) hHeld ?rest4
          case hs4 => kernel_rfl
          case hf4 => kernel_rfl
          case hr4 => kernel_rfl
          case hQ4 => exact fun _ _ _ h => h
          case hw4 => kernel_rfl
          case hy4 => (intro w' hw'; go_simp; try with_reducible rfl)
          (try change wpAnyH _ _ _ _ _ _ _ (Act.put _ (some 21) _) _)
          try simp only [Act.put, List.setIfInBounds_toArray, List.set_cons_zero, List.set_cons_succ]
          refine' wpAnyH_take (i := 4) (oi := _) (v := ?v5) rfl ?hs5 ?hf5 ?hr5 ?hQ5 (Or.inl ⟨?hw5, ?hy5⟩) hHeld ?rest5
          case hs5 => kernel_rfl
          case hf5 => kernel_rfl
          case hr5 => kernel_rfl
          case hQ5 => exact fun _ _ _ h => h
          case hw5 => kernel_rfl
          case hy5 => (intro w' hw'; have c2' := HB2.out _ hw'; have c4' := HC2.out _ hw'; go_simp; try with_reducible rfl)
          (try change wpAnyH _ _ _ _ _ _ _ (Act.put _ (some 22) _) _)
          try simp only [Act.put, List.setIfInBounds_toArray, List.set_cons_zero, List.set_cons_succ]
          refine' wpAnyH_take (i := 6) (oi := _) (v := ?v6) rfl ?hs6 ?hf6 ?hr6 ?hQ6 (Or.inl ⟨?hw6, ?hy6⟩) hHeld ?rest6
          case hs6 => kernel_rfl
          case hf6 => kernel_rfl
          case hr6 => kernel_rfl
          case hQ6 => exact fun _ _ _ h => h
          case hw6 => kernel_rfl
          case hy6 => (intro w' hw'; go_simp; try with_reducible rfl)
          (try change wpAnyH _ _ _ _ _ _ _ (Act.put _ (some 24) _) _)
          try simp only [Act.put, List.setIfInBounds_toArray, List.set_cons_zero, List.set_cons_succ]
          refine wpAnyH_ready (rs := [5]) (by kernel_rfl) (by simp) ?_
          refine AllReadyH.cons rfl (fun K hK => ?_) AllReadyH.nil
          go_simp
          go_at_call 64; refine (HIN.out _ hHeld).mono ?_; rintro e wa ⟨rfl, hba⟩; have hbe := below_step hHeld hba; clear hba
          (try go_wp2_with fail)
          refine hK.out _ _ hbe (fun hHeld => ?_)
          clear hK K
          try simp only [Act.put, List.setIfInBounds_toArray, List.set_cons_zero, List.set_cons_succ]
          refine' wpAnyH_take (i := 7) (oi := _) (v := ?v7) rfl ?hs7 ?hf7 ?hr7 ?hQ7 (Or.inl ⟨?hw7, ?hy7⟩) hHeld ?rest7
          case hs7 => kernel_rfl
          case hf7 => kernel_rfl
          case hr7 => kernel_rfl
          case hQ7 => exact fun _ _ _ h => h
          case hw7 => kernel_rfl
          case hy7 => (intro w' hw'; go_simp; try with_reducible rfl)
          (try change wpAnyH _ _ _ _ _ _ _ (Act.put _ (some 25) _) _)
          try simp only [Act.put, List.setIfInBounds_toArray, List.set_cons_zero, List.set_cons_succ]
          refine' wpAnyH_take (i := 8) (oi := _) (v := ?v8) rfl ?hs8 ?hf8 ?hr8 ?hQ8 (Or.inl ⟨?hw8, ?hy8⟩) hHeld ?rest8
          case hs8 => kernel_rfl
          case hf8 => kernel_rfl
          case hr8 => kernel_rfl
          case hQ8 => exact fun _ _ _ h => h
          case hw8 => kernel_rfl
          case hy8 => (intro w' hw'; go_simp; try with_reducible rfl)
          (try change wpAnyH _ _ _ _ _ _ _ (Act.put _ (some 26) _) _)
          try simp only [Act.put, List.setIfInBounds_toArray, List.set_cons_zero, List.set_cons_succ]
          refine' wpAnyH_take (i := 9) (oi := _) (v := undef) rfl ?hs9 ?hf9 ?hr9 ?hQ9 (Or.inr ⟨?hw9, rfl⟩) hHeld ?rest9
          case hs9 => kernel_rfl
          case hf9 => kernel_rfl
          case hr9 => kernel_rfl
          case hQ9 => exact fun _ _ _ h => h
          case hw9 => kernel_rfl
          (try change wpAnyH _ _ _ _ _ _ _ (Act.put _ (some 27) _) _)
          try simp only [Act.put, List.setIfInBounds_toArray, List.set_cons_zero, List.set_cons_succ]
          refine' wpAnyH_take (i := 10) (oi := _) (v := undef) rfl ?hs10 ?hf10 ?hr10 ?hQ10 (Or.inr ⟨?hw10, rfl⟩) hHeld ?rest10
          case hs10 => kernel_rfl
          case hf10 => kernel_rfl
          case hr10 => kernel_rfl
          case hQ10 => exact fun _ _ _ h => h
          case hw10 => kernel_rfl
          (try change wpAnyH _ _ _ _ _ _ _ (Act.put _ (some 28) _) _)
          try simp only [Act.put, List.setIfInBounds_toArray, List.set_cons_zero, List.set_cons_succ]
          refine' wpAnyH_take (i := 11) (oi := _) (v := undef) rfl ?hs11 ?hf11 ?hr11 ?hQ11 (Or.inr ⟨?hw11, rfl⟩) hHeld ?rest11
          case hs11 => kernel_rfl
          case hf11 => kernel_rfl
          case hr11 => kernel_rfl
          case hQ11 => exact fun _ _ _ h => h
          case hw11 => kernel_rfl
          (try change wpAnyH _ _ _ _ _ _ _ (Act.put _ (some 29) _) _)
          try simp only [Act.put, List.setIfInBounds_toArray, List.set_cons_zero, List.set_cons_succ]
          refine' wpAnyH_take (i := 12) (oi := _) (v := undef) rfl ?hs12 ?hf12 ?hr12 ?hQ12 (Or.inr ⟨?hw12, rfl⟩) hHeld ?rest12
          case hs12 => kernel_rfl
          case hf12 => kernel_rfl
          case hr12 => kernel_rfl
          case hQ12 => exact fun _ _ _ h => h
          case hw12 => kernel_rfl
          (try change wpAnyH _ _ _ _ _ _ _ (Act.put _ (some 30) _) _)
          try simp only [Act.put, List.setIfInBounds_toArray, List.set_cons_zero, List.set_cons_succ]
          refine' wpAnyH_take (i := 13) (oi := _) (v := undef) rfl ?hs13 ?hf13 ?hr13 ?hQ13 (Or.inr ⟨?hw13, rfl⟩) hHeld ?rest13
          case hs13 => kernel_rfl
          case hf13 => kernel_rfl
          case hr13 => kernel_rfl
          case hQ13 => exact fun _ _ _ h => h
          case hw13 => kernel_rfl
          (try change wpAnyH _ _ _ _ _ _ _ (Act.put _ (some 31) _) _)
          try simp only [Act.put, List.setIfInBounds_toArray, List.set_cons_zero, List.set_cons_succ]
          refine' wpAnyH_take (i := 14) (oi := _) (v := undef) rfl ?hs14 ?hf14 ?hr14 ?hQ14 (Or.inr ⟨?hw14, rfl⟩) hHeld ?rest14
          case hs14 => kernel_rfl
          case hf14 => kernel_rfl
          case hr14 => kernel_rfl
          case hQ14 => exact fun _ _ _ h => h
          case hw14 => kernel_rfl
          (try change wpAnyH _ _ _ _ _ _ _ (Act.put _ (some 32) _) _)
          try simp only [Act.put, List.setIfInBounds_toArray, List.set_cons_zero, List.set_cons_succ]
          refine' wpAnyH_take (i := 15) (oi := _) (v := undef) rfl ?hs15 ?hf15 ?hr15 ?hQ15 (Or.inr ⟨?hw15, rfl⟩) hHeld ?rest15
          case hs15 => kernel_rfl
          case hf15 => kernel_rfl
          case hr15 => kernel_rfl
          case hQ15 => exact fun _ _ _ h => h
          case hw15 => kernel_rfl
          (try change wpAnyH _ _ _ _ _ _ _ (Act.put _ (some 33) _) _)
          try simp only [Act.put, List.setIfInBounds_toArray, List.set_cons_zero, List.set_cons_succ]
          refine' wpAnyH_take (i := 16) (oi := _) (v := undef) rfl ?hs16 ?hf16 ?hr16 ?hQ16 (Or.inr ⟨?hw16, rfl⟩) hHeld ?rest16
          case hs16 => kernel_rfl
          case hf16 => kernel_rfl
          case hr16 => kernel_rfl
          case hQ16 => exact fun _ _ _ h => h
          case hw16 => kernel_rfl
          (try change wpAnyH _ _ _ _ _ _ _ (Act.put _ (some 34) _) _)
          try simp only [Act.put, List.setIfInBounds_toArray, List.set_cons_zero, List.set_cons_succ]
          refine' wpAnyH_take (i := 17) (oi := _) (v := undef) rfl ?hs17 ?hf17 ?hr17 ?hQ17 (Or.inr ⟨?hw17, rfl⟩) hHeld ?rest17
          case hs17 => kernel_rfl
          case hf17 => kernel_rfl
          case hr17 => kernel_rfl
          case hQ17 => exact fun _ _ _ h => h
          case hw17 => kernel_rfl
          (try change wpAnyH _ _ _ _ _ _ _ (Act.put _ (some 35) _) _)
          try simp only [Act.put, List.setIfInBounds_toArray, List.set_cons_zero, List.set_cons_succ]
          refine' wpAnyH_take (i := 18) (oi := _) (v := undef) rfl ?hs18 ?hf18 ?hr18 ?hQ18 (Or.inr ⟨?hw18, rfl⟩) hHeld ?rest18
          case hs18 => kernel_rfl
          case hf18 => kernel_rfl
          case hr18 => kernel_rfl
          case hQ18 => exact fun _ _ _ h => h
          case hw18 => kernel_rfl
          (try change wpAnyH _ _ _ _ _ _ _ (Act.put _ (some 36) _) _)
          try simp only [Act.put, List.setIfInBounds_toArray, List.set_cons_zero, List.set_cons_succ]
          refine' wpAnyH_take (i := 19) (oi := _) (v := undef) rfl ?hs19 ?hf19 ?hr19 ?hQ19 (Or.inr ⟨?hw19, rfl⟩) hHeld ?rest19
          case hs19 => kernel_rfl
          case hf19 => kernel_rfl
          case hr19 => kernel_rfl
          case hQ19 => exact fun _ _ _ h => h
          case hw19 => kernel_rfl
          (try change wpAnyH _ _ _ _ _ _ _ (Act.put _ (some 37) _) _)
          try simp only [Act.put, List.setIfInBounds_toArray, List.set_cons_zero, List.set_cons_succ]
          refine' wpAnyH_take (i := 20) (oi := _) (v := undef) rfl ?hs20 ?hf20 ?hr20 ?hQ20 (Or.inr ⟨?hw20, rfl⟩) hHeld ?rest20
          case hs20 => kernel_rfl
          case hf20 => kernel_rfl
          case hr20 => kernel_rfl
          case hQ20 => exact fun _ _ _ h => h
          case hw20 => kernel_rfl
          (try change wpAnyH _ _ _ _ _ _ _ (Act.put _ (some 38) _) _)
          try simp only [Act.put, List.setIfInBounds_toArray, List.set_cons_zero, List.set_cons_succ]
          refine' wpAnyH_take (i := 21) (oi := _) (v := undef) rfl ?hs21 ?hf21 ?hr21 ?hQ21 (Or.inr ⟨?hw21, rfl⟩) hHeld ?rest21
          case hs21 => kernel_rfl
          case hf21 => kernel_rfl
          case hr21 => kernel_rfl
          case hQ21 => exact fun _ _ _ h => h
          case hw21 => kernel_rfl
          (try change wpAnyH _ _ _ _ _ _ _ (Act.put _ (some 39) _) _)
          try simp only [Act.put, List.setIfInBounds_toArray, List.set_cons_zero, List.set_cons_succ]
          refine' wpAnyH_take (i := 22) (oi := _) (v := undef) rfl ?hs22 ?hf22 ?hr22 ?hQ22 (Or.inr ⟨?hw22, rfl⟩) hHeld ?rest22
          case hs22 => kernel_rfl
          case hf22 => kernel_rfl
          case hr22 => kernel_rfl
          case hQ22 => exact fun _ _ _ h => h
          case hw22 => kernel_rfl
          (try change wpAnyH _ _ _ _ _ _ _ (Act.put _ (some 40) _) _)
          try simp only [Act.put, List.setIfInBounds_toArray, List.set_cons_zero, List.set_cons_succ]
          refine' wpAnyH_take (i := 23) (oi := _) (v := undef) rfl ?hs23 ?hf23 ?hr23 ?hQ23 (Or.inr ⟨?hw23, rfl⟩) hHeld ?rest23
          case hs23 => kernel_rfl
          case hf23 => kernel_rfl
          case hr23 => kernel_rfl
          case hQ23 => exact fun _ _ _ h => h
          case hw23 => kernel_rfl
          (try change wpAnyH _ _ _ _ _ _ _ (Act.put _ (some 41) _) _)
          try simp only [Act.put, List.setIfInBounds_toArray, List.set_cons_zero, List.set_cons_succ]
          refine' wpAnyH_take (i := 24) (oi := _) (v := undef) rfl ?hs24 ?hf24 ?hr24 ?hQ24 (Or.inr ⟨?hw24, rfl⟩) hHeld ?rest24
          case hs24 => kernel_rfl
          case hf24 => kernel_rfl
          case hr24 => kernel_rfl
          case hQ24 => exact fun _ _ _ h => h
          case hw24 => kernel_rfl
          (try change wpAnyH _ _ _ _ _ _ _ (Act.put _ (some 42) _) _)
          try simp only [Act.put, List.setIfInBounds_toArray, List.set_cons_zero, List.set_cons_succ]
          refine' wpAnyH_take (i := 25) (oi := _) (v := undef) rfl ?hs25 ?hf25 ?hr25 ?hQ25 (Or.inr ⟨?hw25, rfl⟩) hHeld ?rest25
          case hs25 => kernel_rfl
          case hf25 => kernel_rfl
          case hr25 => kernel_rfl
          case hQ25 => exact fun _ _ _ h => h
          case hw25 => kernel_rfl
          (try change wpAnyH _ _ _ _ _ _ _ (Act.put _ (some 43) _) _)
          try simp only [Act.put, List.setIfInBounds_toArray, List.set_cons_zero, List.set_cons_succ]
          refine' wpAnyH_take (i := 26) (oi := _) (v := ?v26) rfl ?hs26 ?hf26 ?hr26 ?hQ26 (Or.inl ⟨?hw26, ?hy26⟩) hHeld ?rest26
          case hs26 => kernel_rfl
          case hf26 => kernel_rfl
          case hr26 => kernel_rfl
          case hQ26 => exact fun _ _ _ h => h
          case hw26 => kernel_rfl
          case hy26 => (intro w' hw'; go_simp; try with_reducible rfl)
          (try change wpAnyH _ _ _ _ _ _ _ (Act.put _ (some 44) _) _)
          try simp only [Act.put, List.setIfInBounds_toArray, List.set_cons_zero, List.set_cons_succ]
          refine wpAnyH_done ?hdone27 ?hq27 _
          case hdone27 => kernel_rfl
          go_wp2_with fail
          go_meet
          exact ⟨by rw [← HP.out]; first | rfl | simp, hHeld⟩
        · by_cases hq0 : q < 0
          · have HP2 : Hid (p = true) := by unfold Hid; rw [← HP.out, decide_eq_true hq0]; rfl
            have hq1 : decide (q < 0) = true := decide_eq_true hq0
            clear hq0
            refine' wpAnyH_take (i := 0) (oi := _) (v := ?v28) rfl ?hs28 ?hf28 ?hr28 ?hQ28 (Or.inl ⟨?hw28, ?hy28⟩) hHeld ?rest28
            case hs28 => kernel_rfl
            case hf28 => kernel_rfl
            case hr28 => kernel_rfl
            case hQ28 => exact fun _ _ _ h => h
            case hw28 => kernel_rfl
            case hy28 => (intro w' hw'; go_simp; try with_reducible rfl)
            (try change wpAnyH _ _ _ _ _ _ _ (Act.put _ (some 18) _) _)
            try simp only [Act.put, List.setIfInBounds_toArray, List.set_cons_zero, List.set_cons_succ]
            refine' wpAnyH_take (i := 1) (oi := _) (v := ?v29) rfl ?hs29 ?hf29 ?hr29 ?hQ29 (Or.inl ⟨?hw29, ?hy29⟩) hHeld ?rest29
            case hs29 => kernel_rfl
            case hf29 => kernel_rfl
            case hr29 => kernel_rfl
            case hQ29 => exact fun _ _ _ h => h
            case hw29 => kernel_rfl
            case hy29 => (intro w' hw'; have c2' := HB2.out _ hw'; have c4' := HC2.out _ hw'; go_simp; try with_reducible rfl)
            (try change wpAnyH _ _ _ _ _ _ _ (Act.put _ (some 19) _) _)
            try simp only [Act.put, List.setIfInBounds_toArray, List.set_cons_zero, List.set_cons_succ]
            refine' wpAnyH_take (i := 2) (oi := _) (v := ?v30) rfl ?hs30 ?hf30 ?hr30 ?hQ30 (Or.inl ⟨?hw30, ?hy30⟩) hHeld ?rest30
            case hs30 => kernel_rfl
            case hf30 => kernel_rfl
            case hr30 => kernel_rfl
            case hQ30 => exact fun _ _ _ h => h
            case hw30 => kernel_rfl
            case hy30 => (intro w' hw'; go_simp; try with_reducible rfl)
            (try change wpAnyH _ _ _ _ _ _ _ (Act.put _ (some 20) _) _)
            try simp only [Act.put, List.setIfInBounds_toArray, List.set_cons_zero, List.set_cons_succ]
            refine' wpAnyH_take (i := 3) (oi := _) (v := ?v31) rfl ?hs31 ?hf31 ?hr31 ?hQ31 (Or.inl ⟨?hw31, ?hy31⟩) hHeld ?rest31
            case hs31 => kernel_rfl
            case hf31 => kernel_rfl
            case hr31 => kernel_rfl
            case hQ31 => exact fun _ _ _ h => h
            case hw31 => kernel_rfl
            case hy31 => (intro w' hw'; go_simp; try with_reducible rfl)
            (try change wpAnyH _ _ _ _ _ _ _ (Act.put _ (some 21) _) _)
            try simp only [Act.put, List.setIfInBounds_toArray, List.set_cons_zero, List.set_cons_succ]
            refine' wpAnyH_take (i := 4) (oi := _) (v := ?v32) rfl ?hs32 ?hf32 ?hr32 ?hQ32 (Or.inl ⟨?hw32, ?hy32⟩) hHeld ?rest32
            case hs32 => kernel_rfl
            case hf32 => kernel_rfl
            case hr32 => kernel_rfl
            case hQ32 => exact fun _ _ _ h => h
            case hw32 => kernel_rfl
            case hy32 => (intro w' hw'; have c2' := HB2.out _ hw'; have c4' := HC2.out _ hw'; go_simp; try with_reducible rfl)
            (try change wpAnyH _ _ _ _ _ _ _ (Act.put _ (some 22) _) _)
            try simp only [Act.put, List.setIfInBounds_toArray, List.set_cons_zero, List.set_cons_succ]
            refine' wpAnyH_take (i := 6) (oi := _) (v := ?v33) rfl ?hs33 ?hf33 ?hr33 ?hQ33 (Or.inl ⟨?hw33, ?hy33⟩) hHeld ?rest33
            case hs33 => kernel_rfl
            case hf33 => kernel_rfl
            case hr33 => kernel_rfl
            case hQ33 => exact fun _ _ _ h => h
            case hw33 => kernel_rfl
            case hy33 => (intro w' hw'; go_simp; try with_reducible rfl)
            (try change wpAnyH _ _ _ _ _ _ _ (Act.put _ (some 24) _) _)
            try simp only [Act.put, List.setIfInBounds_toArray, List.set_cons_zero, List.set_cons_succ]
            refine wpAnyH_ready (rs := [5]) (by kernel_rfl) (by simp) ?_
            refine AllReadyH.cons rfl (fun K hK => ?_) AllReadyH.nil
            go_simp
            go_at_call 64; refine (HIN.out _ hHeld).mono ?_; rintro e wa ⟨rfl, hba⟩; have hbe := below_step hHeld hba; clear hba
            (try go_wp2_with fail)
            refine hK.out _ _ hbe (fun hHeld => ?_)
            clear hK K
            try simp only [Act.put, List.setIfInBounds_toArray, List.set_cons_zero, List.set_cons_succ]
            refine' wpAnyH_take (i := 7) (oi := _) (v := ?v34) rfl ?hs34 ?hf34 ?hr34 ?hQ34 (Or.inl ⟨?hw34, ?hy34⟩) hHeld ?rest34
            case hs34 => kernel_rfl
            case hf34 => kernel_rfl
            case hr34 => kernel_rfl
            case hQ34 => exact fun _ _ _ h => h
            case hw34 => kernel_rfl
            case hy34 => (intro w' hw'; go_simp; try with_reducible rfl)
            (try change wpAnyH _ _ _ _ _ _ _ (Act.put _ (some 25) _) _)
            try simp only [Act.put, List.setIfInBounds_toArray, List.set_cons_zero, List.set_cons_succ]
            refine' wpAnyH_take (i := 8) (oi := _) (v := ?v35) rfl ?hs35 ?hf35 ?hr35 ?hQ35 (Or.inl ⟨?hw35, ?hy35⟩) hHeld ?rest35
            case hs35 => kernel_rfl
            case hf35 => kernel_rfl
            case hr35 => kernel_rfl
            case hQ35 => exact fun _ _ _ h => h
            case hw35 => kernel_rfl
            case hy35 => (intro w' hw'; go_simp; try with_reducible rfl)
            (try change wpAnyH _ _ _ _ _ _ _ (Act.put _ (some 26) _) _)
            try simp only [Act.put, List.setIfInBounds_toArray, List.set_cons_zero, List.set_cons_succ]
            refine' wpAnyH_take (i := 9) (oi := _) (v := ?v36) rfl ?hs36 ?hf36 ?hr36 ?hQ36 (Or.inl ⟨?hw36, ?hy36⟩) hHeld ?rest36
            case hs36 => kernel_rfl
            case hf36 => kernel_rfl
            case hr36 => kernel_rfl
            case hQ36 => exact fun _ _ _ h => h
            case hw36 => kernel_rfl
            case hy36 => (intro w' hw'; go_simp; try with_reducible rfl)
            (try change wpAnyH _ _ _ _ _ _ _ (Act.put _ (some 27) _) _)
            try simp only [Act.put, List.setIfInBounds_toArray, List.set_cons_zero, List.set_cons_succ]
            refine' wpAnyH_take (i := 10) (oi := _) (v := ?v37) rfl ?hs37 ?hf37 ?hr37 ?hQ37 (Or.inl ⟨?hw37, ?hy37⟩) hHeld ?rest37
            case hs37 => kernel_rfl
            case hf37 => kernel_rfl
            case hr37 => kernel_rfl
            case hQ37 => exact fun _ _ _ h => h
            case hw37 => kernel_rfl
            case hy37 => (intro w' hw'; go_simp; try with_reducible rfl)
            (try change wpAnyH _ _ _ _ _ _ _ (Act.put _ (some 28) _) _)
            try simp only [Act.put, List.setIfInBounds_toArray, List.set_cons_zero, List.set_cons_succ]
            refine' wpAnyH_take (i := 11) (oi := _) (v := ?v38) rfl ?hs38 ?hf38 ?hr38 ?hQ38 (Or.inl ⟨?hw38, ?hy38⟩) hHeld ?rest38
            case hs38 => kernel_rfl
            case hf38 => kernel_rfl
            case hr38 => kernel_rfl
            case hQ38 => exact fun _ _ _ h => h
            case hw38 => kernel_rfl
            case hy38 => (intro w' hw'; go_simp; try with_reducible rfl)
            (try change wpAnyH _ _ _ _ _ _ _ (Act.put _ (some 29) _) _)
            try simp only [Act.put, List.setIfInBounds_toArray, List.set_cons_zero, List.set_cons_succ]
            refine' wpAnyH_take (i := 12) (oi := _) (v := undef) rfl ?hs39 ?hf39 ?hr39 ?hQ39 (Or.inr ⟨?hw39, rfl⟩) hHeld ?rest39
            case hs39 => kernel_rfl
            case hf39 => kernel_rfl
            case hr39 => kernel_rfl
            case hQ39 => exact fun _ _ _ h => h
            case hw39 => kernel_rfl
            (try change wpAnyH _ _ _ _ _ _ _ (Act.put _ (some 30) _) _)
            try simp only [Act.put, List.setIfInBounds_toArray, List.set_cons_zero, List.set_cons_succ]
            refine' wpAnyH_take (i := 13) (oi := _) (v := undef) rfl ?hs40 ?hf40 ?hr40 ?hQ40 (Or.inr ⟨?hw40, rfl⟩) hHeld ?rest40
            case hs40 => kernel_rfl
            case hf40 => kernel_rfl
            case hr40 => kernel_rfl
            case hQ40 => exact fun _ _ _ h => h
            case hw40 => kernel_rfl
            (try change wpAnyH _ _ _ _ _ _ _ (Act.put _ (some 31) _) _)
            try simp only [Act.put, List.setIfInBounds_toArray, List.set_cons_zero, List.set_cons_succ]
            refine' wpAnyH_take (i := 14) (oi := _) (v := undef) rfl ?hs41 ?hf41 ?hr41 ?hQ41 (Or.inr ⟨?hw41, rfl⟩) hHeld ?rest41
            case hs41 => kernel_rfl
            case hf41 => kernel_rfl
            case hr41 => kernel_rfl
            case hQ41 => exact fun _ _ _ h => h
            case hw41 => kernel_rfl
            (try change wpAnyH _ _ _ _ _ _ _ (Act.put _ (some 32) _) _)
            try simp only [Act.put, List.setIfInBounds_toArray, List.set_cons_zero, List.set_cons_succ]
            refine' wpAnyH_take (i := 15) (oi := _) (v := undef) rfl ?hs42 ?hf42 ?hr42 ?hQ42 (Or.inr ⟨?hw42, rfl⟩) hHeld ?rest42
            case hs42 => kernel_rfl
            case hf42 => kernel_rfl
            case hr42 => kernel_rfl
            case hQ42 => exact fun _ _ _ h => h
            case hw42 => kernel_rfl
            (try change wpAnyH _ _ _ _ _ _ _ (Act.put _ (some 33) _) _)
            try simp only [Act.put, List.setIfInBounds_toArray, List.set_cons_zero, List.set_cons_succ]
            refine' wpAnyH_take (i := 16) (oi := _) (v := undef) rfl ?hs43 ?hf43 ?hr43 ?hQ43 (Or.inr ⟨?hw43, rfl⟩) hHeld ?rest43
            case hs43 => kernel_rfl
            case hf43 => kernel_rfl
            case hr43 => kernel_rfl
            case hQ43 => exact fun _ _ _ h => h
            case hw43 => kernel_rfl
            (try change wpAnyH _ _ _ _ _ _ _ (Act.put _ (some 34) _) _)
            try simp only [Act.put, List.setIfInBounds_toArray, List.set_cons_zero, List.set_cons_succ]
            refine' wpAnyH_take (i := 17) (oi := _) (v := undef) rfl ?hs44 ?hf44 ?hr44 ?hQ44 (Or.inr ⟨?hw44, rfl⟩) hHeld ?rest44
            case hs44 => kernel_rfl
            case hf44 => kernel_rfl
            case hr44 => kernel_rfl
            case hQ44 => exact fun _ _ _ h => h
            case hw44 => kernel_rfl
            (try change wpAnyH _ _ _ _ _ _ _ (Act.put _ (some 35) _) _)
            try simp only [Act.put, List.setIfInBounds_toArray, List.set_cons_zero, List.set_cons_succ]
            refine' wpAnyH_take (i := 18) (oi := _) (v := undef) rfl ?hs45 ?hf45 ?hr45 ?hQ45 (Or.inr ⟨?hw45, rfl⟩) hHeld ?rest45
            case hs45 => kernel_rfl
            case hf45 => kernel_rfl
            case hr45 => kernel_rfl
            case hQ45 => exact fun _ _ _ h => h
            case hw45 => kernel_rfl
            (try change wpAnyH _ _ _ _ _ _ _ (Act.put _ (some 36) _) _)
            try simp only [Act.put, List.setIfInBounds_toArray, List.set_cons_zero, List.set_cons_succ]
            refine' wpAnyH_take (i := 19) (oi := _) (v := undef) rfl ?hs46 ?hf46 ?hr46 ?hQ46 (Or.inr ⟨?hw46, rfl⟩) hHeld ?rest46
            case hs46 => kernel_rfl
            case hf46 => kernel_rfl
            case hr46 => kernel_rfl
            case hQ46 => exact fun _ _ _ h => h
            case hw46 => kernel_rfl
            (try change wpAnyH _ _ _ _ _ _ _ (Act.put _ (some 37) _) _)
            try simp only [Act.put, List.setIfInBounds_toArray, List.set_cons_zero, List.set_cons_succ]
            refine' wpAnyH_take (i := 20) (oi := _) (v := undef) rfl ?hs47 ?hf47 ?hr47 ?hQ47 (Or.inr ⟨?hw47, rfl⟩) hHeld ?rest47
            case hs47 => kernel_rfl
            case hf47 => kernel_rfl
            case hr47 => kernel_rfl
            case hQ47 => exact fun _ _ _ h => h
            case hw47 => kernel_rfl
            (try change wpAnyH _ _ _ _ _ _ _ (Act.put _ (some 38) _) _)
            try simp only [Act.put, List.setIfInBounds_toArray, List.set_cons_zero, List.set_cons_succ]
            refine' wpAnyH_take (i := 21) (oi := _) (v := undef) rfl ?hs48 ?hf48 ?hr48 ?hQ48 (Or.inr ⟨?hw48, rfl⟩) hHeld ?rest48
            case hs48 => kernel_rfl
            case hf48 => kernel_rfl
            case hr48 => kernel_rfl
            case hQ48 => exact fun _ _ _ h => h
            case hw48 => kernel_rfl
            (try change wpAnyH _ _ _ _ _ _ _ (Act.put _ (some 39) _) _)
            try simp only [Act.put, List.setIfInBounds_toArray, List.set_cons_zero, List.set_cons_succ]
            refine' wpAnyH_take (i := 22) (oi := _) (v := undef) rfl ?hs49 ?hf49 ?hr49 ?hQ49 (Or.inr ⟨?hw49, rfl⟩) hHeld ?rest49
            case hs49 => kernel_rfl
            case hf49 => kernel_rfl
            case hr49 => kernel_rfl
            case hQ49 => exact fun _ _ _ h => h
            case hw49 => kernel_rfl
            (try change wpAnyH _ _ _ _ _ _ _ (Act.put _ (some 40) _) _)
            try simp only [Act.put, List.setIfInBounds_toArray, List.set_cons_zero, List.set_cons_succ]
            refine' wpAnyH_take (i := 23) (oi := _) (v := undef) rfl ?hs50 ?hf50 ?hr50 ?hQ50 (Or.inr ⟨?hw50, rfl⟩) hHeld ?rest50
            case hs50 => kernel_rfl
            case hf50 => kernel_rfl
            case hr50 => kernel_rfl
            case hQ50 => exact fun _ _ _ h => h
            case hw50 => kernel_rfl
            (try change wpAnyH _ _ _ _ _ _ _ (Act.put _ (some 41) _) _)
            try simp only [Act.put, List.setIfInBounds_toArray, List.set_cons_zero, List.set_cons_succ]
            refine' wpAnyH_take (i := 24) (oi := _) (v := undef) rfl ?hs51 ?hf51 ?hr51 ?hQ51 (Or.inr ⟨?hw51, rfl⟩) hHeld ?rest51
            case hs51 => kernel_rfl
            case hf51 => kernel_rfl
            case hr51 => kernel_rfl
            case hQ51 => exact fun _ _ _ h => h
            case hw51 => kernel_rfl
            (try change wpAnyH _ _ _ _ _ _ _ (Act.put _ (some 42) _) _)
            try simp only [Act.put, List.setIfInBounds_toArray, List.set_cons_zero, List.set_cons_succ]
            refine' wpAnyH_take (i := 25) (oi := _) (v := ?v52) rfl ?hs52 ?hf52 ?hr52 ?hQ52 (Or.inl ⟨?hw52, ?hy52⟩) hHeld ?rest52
            case hs52 => kernel_rfl
            case hf52 => kernel_rfl
            case hr52 => kernel_rfl
            case hQ52 => exact fun _ _ _ h => h
            case hw52 => kernel_rfl
            case hy52 => (intro w' hw'; go_simp; try with_reducible rfl)
            (try change wpAnyH _ _ _ _ _ _ _ (Act.put _ (some 43) _) _)
            try simp only [Act.put, List.setIfInBounds_toArray, List.set_cons_zero, List.set_cons_succ]
            refine' wpAnyH_take (i := 26) (oi := _) (v := ?v53) rfl ?hs53 ?hf53 ?hr53 ?hQ53 (Or.inl ⟨?hw53, ?hy53⟩) hHeld ?rest53
            case hs53 => kernel_rfl
            case hf53 => kernel_rfl
            case hr53 => kernel_rfl
            case hQ53 => exact fun _ _ _ h => h
            case hw53 => kernel_rfl
            case hy53 => (intro w' hw'; go_simp; try with_reducible rfl)
            (try change wpAnyH _ _ _ _ _ _ _ (Act.put _ (some 44) _) _)
            try simp only [Act.put, List.setIfInBounds_toArray, List.set_cons_zero, List.set_cons_succ]
            refine wpAnyH_done ?hdone54 ?hq54 _
            case hdone54 => kernel_rfl
            go_wp2_with fail
            go_meet
            exact ⟨by rw [HP2.out], hHeld⟩
          · obtain ⟨j, rfl⟩ : ∃ j : Nat, q = (j : Int) := ⟨q.toNat, by omega⟩
            obtain ⟨c', hc'⟩ := HX2.out j (by omega)
            have HP2 : Hid (p = decide ((edits c.Links : Int) < (edits c'.Links : Int))) := by unfold Hid; rw [← HP.out, decide_eq_false hq0, Int.toNat_natCast, HED.out j c' hc']; rfl
            have HL' := Lib.hid (HZ4.out j c' hc')
            obtain ⟨g3, o3, xs3, G3, hge, -, hr3', -, hc3⟩ := (HV.out.rows.kept HB3.out).get hc'
            cases hge
            obtain ⟨v3, rfl, q3⟩ := rCandidate_rd hr3'
            rw [rCandidate_size] at hc3
            have d3 := hc3 0 _ rfl
            simp only [Nat.add_zero, Nat.mul_one] at d3
            have HC3 : Hid (∀ W : World, Below w3.heap.size w3 W → W.cell? ⟨g2, o2 + j, none⟩ = some v3) := fun W hW => cell_kept hW d3
            have HQ3 := Lib.hid q3
            have HIF : Hid (∀ W, Below w3.heap.size w3 W → Calls Tryz.prog 65 #[.agg #[v3]] W fun e w' => e = .returned (.int .i64 (edits c'.Links : Nat)) ∧ Below W.heap.size W w') := fun W hW => HSE.out c' v3 G3 W HL'.out (HQ3.out.kept hW)
            have hjr : (j : Int) < (x.Rows.length : Int) := by omega
            have hq1 : decide ((j : Int) < 0) = false := decide_eq_false (by omega)
            clear hc' hr3' hc3 d3 q3 hq0
            refine' wpAnyH_take (i := 0) (oi := _) (v := ?v55) rfl ?hs55 ?hf55 ?hr55 ?hQ55 (Or.inl ⟨?hw55, ?hy55⟩) hHeld ?rest55
            case hs55 => kernel_rfl
            case hf55 => kernel_rfl
            case hr55 => kernel_rfl
            case hQ55 => exact fun _ _ _ h => h
            case hw55 => kernel_rfl
            case hy55 => (intro w' hw'; go_simp; try with_reducible rfl)
            (try change wpAnyH _ _ _ _ _ _ _ (Act.put _ (some 18) _) _)
            try simp only [Act.put, List.setIfInBounds_toArray, List.set_cons_zero, List.set_cons_succ]
            refine' wpAnyH_take (i := 1) (oi := _) (v := ?v56) rfl ?hs56 ?hf56 ?hr56 ?hQ56 (Or.inl ⟨?hw56, ?hy56⟩) hHeld ?rest56
            case hs56 => kernel_rfl
            case hf56 => kernel_rfl
            case hr56 => kernel_rfl
            case hQ56 => exact fun _ _ _ h => h
            case hw56 => kernel_rfl
            case hy56 => (intro w' hw'; have c2' := HB2.out _ hw'; have c4' := HC2.out _ hw'; have c5' := HC3.out _ hw'; go_simp; try with_reducible rfl)
            (try change wpAnyH _ _ _ _ _ _ _ (Act.put _ (some 19) _) _)
            try simp only [Act.put, List.setIfInBounds_toArray, List.set_cons_zero, List.set_cons_succ]
            refine' wpAnyH_take (i := 2) (oi := _) (v := ?v57) rfl ?hs57 ?hf57 ?hr57 ?hQ57 (Or.inl ⟨?hw57, ?hy57⟩) hHeld ?rest57
            case hs57 => kernel_rfl
            case hf57 => kernel_rfl
            case hr57 => kernel_rfl
            case hQ57 => exact fun _ _ _ h => h
            case hw57 => kernel_rfl
            case hy57 => (intro w' hw'; go_simp; try with_reducible rfl)
            (try change wpAnyH _ _ _ _ _ _ _ (Act.put _ (some 20) _) _)
            try simp only [Act.put, List.setIfInBounds_toArray, List.set_cons_zero, List.set_cons_succ]
            refine' wpAnyH_take (i := 3) (oi := _) (v := ?v58) rfl ?hs58 ?hf58 ?hr58 ?hQ58 (Or.inl ⟨?hw58, ?hy58⟩) hHeld ?rest58
            case hs58 => kernel_rfl
            case hf58 => kernel_rfl
            case hr58 => kernel_rfl
            case hQ58 => exact fun _ _ _ h => h
            case hw58 => kernel_rfl
            case hy58 => (intro w' hw'; go_simp; try with_reducible rfl)
            (try change wpAnyH _ _ _ _ _ _ _ (Act.put _ (some 21) _) _)
            try simp only [Act.put, List.setIfInBounds_toArray, List.set_cons_zero, List.set_cons_succ]
            refine' wpAnyH_take (i := 4) (oi := _) (v := ?v59) rfl ?hs59 ?hf59 ?hr59 ?hQ59 (Or.inl ⟨?hw59, ?hy59⟩) hHeld ?rest59
            case hs59 => kernel_rfl
            case hf59 => kernel_rfl
            case hr59 => kernel_rfl
            case hQ59 => exact fun _ _ _ h => h
            case hw59 => kernel_rfl
            case hy59 => (intro w' hw'; have c2' := HB2.out _ hw'; have c4' := HC2.out _ hw'; have c5' := HC3.out _ hw'; go_simp; try with_reducible rfl)
            (try change wpAnyH _ _ _ _ _ _ _ (Act.put _ (some 22) _) _)
            try simp only [Act.put, List.setIfInBounds_toArray, List.set_cons_zero, List.set_cons_succ]
            refine' wpAnyH_take (i := 6) (oi := _) (v := ?v60) rfl ?hs60 ?hf60 ?hr60 ?hQ60 (Or.inl ⟨?hw60, ?hy60⟩) hHeld ?rest60
            case hs60 => kernel_rfl
            case hf60 => kernel_rfl
            case hr60 => kernel_rfl
            case hQ60 => exact fun _ _ _ h => h
            case hw60 => kernel_rfl
            case hy60 => (intro w' hw'; go_simp; try with_reducible rfl)
            (try change wpAnyH _ _ _ _ _ _ _ (Act.put _ (some 24) _) _)
            try simp only [Act.put, List.setIfInBounds_toArray, List.set_cons_zero, List.set_cons_succ]
            refine wpAnyH_ready (rs := [5]) (by kernel_rfl) (by simp) ?_
            refine AllReadyH.cons rfl (fun K hK => ?_) AllReadyH.nil
            go_simp
            go_at_call 64; refine (HIN.out _ hHeld).mono ?_; rintro e wa ⟨rfl, hba⟩; have hbe := below_step hHeld hba; clear hba
            (try go_wp2_with fail)
            refine hK.out _ _ hbe (fun hHeld => ?_)
            clear hK K
            try simp only [Act.put, List.setIfInBounds_toArray, List.set_cons_zero, List.set_cons_succ]
            refine' wpAnyH_take (i := 7) (oi := _) (v := ?v61) rfl ?hs61 ?hf61 ?hr61 ?hQ61 (Or.inl ⟨?hw61, ?hy61⟩) hHeld ?rest61
            case hs61 => kernel_rfl
            case hf61 => kernel_rfl
            case hr61 => kernel_rfl
            case hQ61 => exact fun _ _ _ h => h
            case hw61 => kernel_rfl
            case hy61 => (intro w' hw'; go_simp; try with_reducible rfl)
            (try change wpAnyH _ _ _ _ _ _ _ (Act.put _ (some 25) _) _)
            try simp only [Act.put, List.setIfInBounds_toArray, List.set_cons_zero, List.set_cons_succ]
            refine' wpAnyH_take (i := 8) (oi := _) (v := ?v62) rfl ?hs62 ?hf62 ?hr62 ?hQ62 (Or.inl ⟨?hw62, ?hy62⟩) hHeld ?rest62
            case hs62 => kernel_rfl
            case hf62 => kernel_rfl
            case hr62 => kernel_rfl
            case hQ62 => exact fun _ _ _ h => h
            case hw62 => kernel_rfl
            case hy62 => (intro w' hw'; go_simp; try with_reducible rfl)
            (try change wpAnyH _ _ _ _ _ _ _ (Act.put _ (some 26) _) _)
            try simp only [Act.put, List.setIfInBounds_toArray, List.set_cons_zero, List.set_cons_succ]
            refine' wpAnyH_take (i := 9) (oi := _) (v := ?v63) rfl ?hs63 ?hf63 ?hr63 ?hQ63 (Or.inl ⟨?hw63, ?hy63⟩) hHeld ?rest63
            case hs63 => kernel_rfl
            case hf63 => kernel_rfl
            case hr63 => kernel_rfl
            case hQ63 => exact fun _ _ _ h => h
            case hw63 => kernel_rfl
            case hy63 => (intro w' hw'; go_simp; try with_reducible rfl)
            (try change wpAnyH _ _ _ _ _ _ _ (Act.put _ (some 27) _) _)
            try simp only [Act.put, List.setIfInBounds_toArray, List.set_cons_zero, List.set_cons_succ]
            refine' wpAnyH_take (i := 10) (oi := _) (v := ?v64) rfl ?hs64 ?hf64 ?hr64 ?hQ64 (Or.inl ⟨?hw64, ?hy64⟩) hHeld ?rest64
            case hs64 => kernel_rfl
            case hf64 => kernel_rfl
            case hr64 => kernel_rfl
            case hQ64 => exact fun _ _ _ h => h
            case hw64 => kernel_rfl
            case hy64 => (intro w' hw'; go_simp; try with_reducible rfl)
            (try change wpAnyH _ _ _ _ _ _ _ (Act.put _ (some 28) _) _)
            try simp only [Act.put, List.setIfInBounds_toArray, List.set_cons_zero, List.set_cons_succ]
            refine' wpAnyH_take (i := 11) (oi := _) (v := ?v65) rfl ?hs65 ?hf65 ?hr65 ?hQ65 (Or.inl ⟨?hw65, ?hy65⟩) hHeld ?rest65
            case hs65 => kernel_rfl
            case hf65 => kernel_rfl
            case hr65 => kernel_rfl
            case hQ65 => exact fun _ _ _ h => h
            case hw65 => kernel_rfl
            case hy65 => (intro w' hw'; go_simp; try with_reducible rfl)
            (try change wpAnyH _ _ _ _ _ _ _ (Act.put _ (some 29) _) _)
            try simp only [Act.put, List.setIfInBounds_toArray, List.set_cons_zero, List.set_cons_succ]
            refine' wpAnyH_take (i := 12) (oi := _) (v := ?v66) rfl ?hs66 ?hf66 ?hr66 ?hQ66 (Or.inl ⟨?hw66, ?hy66⟩) hHeld ?rest66
            case hs66 => kernel_rfl
            case hf66 => kernel_rfl
            case hr66 => kernel_rfl
            case hQ66 => exact fun _ _ _ h => h
            case hw66 => kernel_rfl
            case hy66 => (intro w' hw'; go_simp; try with_reducible rfl)
            (try change wpAnyH _ _ _ _ _ _ _ (Act.put _ (some 30) _) _)
            try simp only [Act.put, List.setIfInBounds_toArray, List.set_cons_zero, List.set_cons_succ]
            refine' wpAnyH_take (i := 13) (oi := _) (v := ?v67) rfl ?hs67 ?hf67 ?hr67 ?hQ67 (Or.inl ⟨?hw67, ?hy67⟩) hHeld ?rest67
            case hs67 => kernel_rfl
            case hf67 => kernel_rfl
            case hr67 => kernel_rfl
            case hQ67 => exact fun _ _ _ h => h
            case hw67 => kernel_rfl
            case hy67 => (intro w' hw'; have c2' := HB2.out _ hw'; have c4' := HC2.out _ hw'; have c5' := HC3.out _ hw'; go_simp; try with_reducible rfl)
            (try change wpAnyH _ _ _ _ _ _ _ (Act.put _ (some 31) _) _)
            try simp only [Act.put, List.setIfInBounds_toArray, List.set_cons_zero, List.set_cons_succ]
            refine' wpAnyH_take (i := 14) (oi := _) (v := ?v68) rfl ?hs68 ?hf68 ?hr68 ?hQ68 (Or.inl ⟨?hw68, ?hy68⟩) hHeld ?rest68
            case hs68 => kernel_rfl
            case hf68 => kernel_rfl
            case hr68 => kernel_rfl
            case hQ68 => exact fun _ _ _ h => h
            case hw68 => kernel_rfl
            case hy68 => (intro w' hw'; go_simp; try with_reducible rfl)
            (try change wpAnyH _ _ _ _ _ _ _ (Act.put _ (some 32) _) _)
            try simp only [Act.put, List.setIfInBounds_toArray, List.set_cons_zero, List.set_cons_succ]
            refine' wpAnyH_take (i := 15) (oi := _) (v := ?v69) rfl ?hs69 ?hf69 ?hr69 ?hQ69 (Or.inl ⟨?hw69, ?hy69⟩) hHeld ?rest69
            case hs69 => kernel_rfl
            case hf69 => kernel_rfl
            case hr69 => kernel_rfl
            case hQ69 => exact fun _ _ _ h => h
            case hw69 => kernel_rfl
            case hy69 => (intro w' hw'; go_simp; try with_reducible rfl)
            (try change wpAnyH _ _ _ _ _ _ _ (Act.put _ (some 33) _) _)
            try simp only [Act.put, List.setIfInBounds_toArray, List.set_cons_zero, List.set_cons_succ]
            refine' wpAnyH_take (i := 16) (oi := _) (v := ?v70) rfl ?hs70 ?hf70 ?hr70 ?hQ70 (Or.inl ⟨?hw70, ?hy70⟩) hHeld ?rest70
            case hs70 => kernel_rfl
            case hf70 => kernel_rfl
            case hr70 => kernel_rfl
            case hQ70 => exact fun _ _ _ h => h
            case hw70 => kernel_rfl
            case hy70 => (intro w' hw'; have c2' := HB2.out _ hw'; have c4' := HC2.out _ hw'; have c5' := HC3.out _ hw'; go_simp; try with_reducible rfl)
            (try change wpAnyH _ _ _ _ _ _ _ (Act.put _ (some 34) _) _)
            try simp only [Act.put, List.setIfInBounds_toArray, List.set_cons_zero, List.set_cons_succ]
            refine' wpAnyH_take (i := 18) (oi := _) (v := ?v71) rfl ?hs71 ?hf71 ?hr71 ?hQ71 (Or.inl ⟨?hw71, ?hy71⟩) hHeld ?rest71
            case hs71 => kernel_rfl
            case hf71 => kernel_rfl
            case hr71 => kernel_rfl
            case hQ71 => exact fun _ _ _ h => h
            case hw71 => kernel_rfl
            case hy71 => (intro w' hw'; go_simp; try with_reducible rfl)
            (try change wpAnyH _ _ _ _ _ _ _ (Act.put _ (some 36) _) _)
            try simp only [Act.put, List.setIfInBounds_toArray, List.set_cons_zero, List.set_cons_succ]
            refine' wpAnyH_take (i := 19) (oi := _) (v := ?v72) rfl ?hs72 ?hf72 ?hr72 ?hQ72 (Or.inl ⟨?hw72, ?hy72⟩) hHeld ?rest72
            case hs72 => kernel_rfl
            case hf72 => kernel_rfl
            case hr72 => kernel_rfl
            case hQ72 => exact fun _ _ _ h => h
            case hw72 => kernel_rfl
            case hy72 => (intro w' hw'; have c2' := HB2.out _ hw'; have c4' := HC2.out _ hw'; have c5' := HC3.out _ hw'; go_simp; try with_reducible rfl)
            (try change wpAnyH _ _ _ _ _ _ _ (Act.put _ (some 37) _) _)
            try simp only [Act.put, List.setIfInBounds_toArray, List.set_cons_zero, List.set_cons_succ]
            refine' wpAnyH_take (i := 20) (oi := _) (v := ?v73) rfl ?hs73 ?hf73 ?hr73 ?hQ73 (Or.inl ⟨?hw73, ?hy73⟩) hHeld ?rest73
            case hs73 => kernel_rfl
            case hf73 => kernel_rfl
            case hr73 => kernel_rfl
            case hQ73 => exact fun _ _ _ h => h
            case hw73 => kernel_rfl
            case hy73 => (intro w' hw'; go_simp; try with_reducible rfl)
            (try change wpAnyH _ _ _ _ _ _ _ (Act.put _ (some 38) _) _)
            try simp only [Act.put, List.setIfInBounds_toArray, List.set_cons_zero, List.set_cons_succ]
            refine' wpAnyH_take (i := 21) (oi := _) (v := ?v74) rfl ?hs74 ?hf74 ?hr74 ?hQ74 (Or.inl ⟨?hw74, ?hy74⟩) hHeld ?rest74
            case hs74 => kernel_rfl
            case hf74 => kernel_rfl
            case hr74 => kernel_rfl
            case hQ74 => exact fun _ _ _ h => h
            case hw74 => kernel_rfl
            case hy74 => (intro w' hw'; go_simp; try with_reducible rfl)
            (try change wpAnyH _ _ _ _ _ _ _ (Act.put _ (some 39) _) _)
            try simp only [Act.put, List.setIfInBounds_toArray, List.set_cons_zero, List.set_cons_succ]
            refine' wpAnyH_take (i := 22) (oi := _) (v := ?v75) rfl ?hs75 ?hf75 ?hr75 ?hQ75 (Or.inl ⟨?hw75, ?hy75⟩) hHeld ?rest75
            case hs75 => kernel_rfl
            case hf75 => kernel_rfl
            case hr75 => kernel_rfl
            case hQ75 => exact fun _ _ _ h => h
            case hw75 => kernel_rfl
            case hy75 => (intro w' hw'; have c2' := HB2.out _ hw'; have c4' := HC2.out _ hw'; have c5' := HC3.out _ hw'; go_simp; try with_reducible rfl)
            (try change wpAnyH _ _ _ _ _ _ _ (Act.put _ (some 40) _) _)
            try simp only [Act.put, List.setIfInBounds_toArray, List.set_cons_zero, List.set_cons_succ]
            refine wpAnyH_ready (rs := [17]) (by kernel_rfl) (by simp) ?_
            refine AllReadyH.cons rfl (fun K hK => ?_) AllReadyH.nil
            go_simp
            go_at_call 65; refine (HIE.out _ hHeld).mono ?_; rintro e wb ⟨rfl, hba⟩; have hbe := below_step hHeld hba; clear hba
            (try go_wp2_with fail)
            refine hK.out _ _ hbe (fun hHeld => ?_)
            clear hK K
            try simp only [Act.put, List.setIfInBounds_toArray, List.set_cons_zero, List.set_cons_succ]
            refine wpAnyH_ready (rs := [23]) (by kernel_rfl) (by simp) ?_
            refine AllReadyH.cons rfl (fun K hK => ?_) AllReadyH.nil
            go_simp
            go_at_call 65; refine (HIF.out _ hHeld).mono ?_; rintro e wc ⟨rfl, hba⟩; have hbe := below_step hHeld hba; clear hba
            (try go_wp2_with fail)
            refine hK.out _ _ hbe (fun hHeld => ?_)
            clear hK K
            try simp only [Act.put, List.setIfInBounds_toArray, List.set_cons_zero, List.set_cons_succ]
            refine' wpAnyH_take (i := 24) (oi := _) (v := ?v76) rfl ?hs76 ?hf76 ?hr76 ?hQ76 (Or.inl ⟨?hw76, ?hy76⟩) hHeld ?rest76
            case hs76 => kernel_rfl
            case hf76 => kernel_rfl
            case hr76 => kernel_rfl
            case hQ76 => exact fun _ _ _ h => h
            case hw76 => kernel_rfl
            case hy76 => (intro w' hw'; go_simp; try with_reducible rfl)
            (try change wpAnyH _ _ _ _ _ _ _ (Act.put _ (some 42) _) _)
            try simp only [Act.put, List.setIfInBounds_toArray, List.set_cons_zero, List.set_cons_succ]
            refine' wpAnyH_take (i := 25) (oi := _) (v := ?v77) rfl ?hs77 ?hf77 ?hr77 ?hQ77 (Or.inl ⟨?hw77, ?hy77⟩) hHeld ?rest77
            case hs77 => kernel_rfl
            case hf77 => kernel_rfl
            case hr77 => kernel_rfl
            case hQ77 => exact fun _ _ _ h => h
            case hw77 => kernel_rfl
            case hy77 => (intro w' hw'; go_simp; try with_reducible rfl)
            (try change wpAnyH _ _ _ _ _ _ _ (Act.put _ (some 43) _) _)
            try simp only [Act.put, List.setIfInBounds_toArray, List.set_cons_zero, List.set_cons_succ]
            refine' wpAnyH_take (i := 26) (oi := _) (v := ?v78) rfl ?hs78 ?hf78 ?hr78 ?hQ78 (Or.inl ⟨?hw78, ?hy78⟩) hHeld ?rest78
            case hs78 => kernel_rfl
            case hf78 => kernel_rfl
            case hr78 => kernel_rfl
            case hQ78 => exact fun _ _ _ h => h
            case hw78 => kernel_rfl
            case hy78 => (intro w' hw'; go_simp; try with_reducible rfl)
            (try change wpAnyH _ _ _ _ _ _ _ (Act.put _ (some 44) _) _)
            try simp only [Act.put, List.setIfInBounds_toArray, List.set_cons_zero, List.set_cons_succ]
            refine wpAnyH_done ?hdone79 ?hq79 _
            case hdone79 => kernel_rfl
            go_wp2_with fail
            go_meet
            exact ⟨by rw [HP2.out]; first | rfl | (congr 1; exact decide_eq_decide.2 (by omega)), hHeld⟩
      case rest =>
        obtain ⟨rfl, hbw⟩ := hcut
        have HBW := Lib.hid hbw
        clear hbw hp
        cases p with
        | false =>
          have HK := Lib.hid (HKP2.out HP.out)
          go_wp2
          go_roundw
          case rel => exact ⟨k + 1, by omega, by go_num, by rw [HK.out], (fun _ => by first | rfl | trivial), HBX3.out.kept HBW.out, HW.out _ HBW.out⟩
          case measure => simp [intOf]; omega
        | true =>
          have HK := Lib.hid (HTK2.out HP.out)
          go_wp2
          go_roundw
          case rel => exact ⟨k + 1, by omega, by go_num, by rw [HK.out], (fun _ => by first | rfl | trivial), HBX3.out.kept HBW.out, HW.out _ HBW.out⟩
          case measure => simp [intOf]; omega
    · obtain rfl : k = x.Rows.length := by omega
      have HN : Hid (rowW x out = bestTo x out x.Rows.length) := by
        unfold Hid
        cases t with
        | true => exact (HY2.out rfl).1
        | false =>
          have hk0 : x.Rows.length = 0 := by rcases Nat.eq_zero_or_pos x.Rows.length with h | h; exact h; exact absurd (hpos h) (by simp)
          rw [HN2.out rfl, hk0]; rfl
      have b2 := HBX.out.cell 2 rfl
      go_wp2
      go_ret
      exact ⟨ret_i64 HN.out.symm, HB.out⟩
end Go.Proofs.YtcgmlhlnkbjfnaaGreatDoor

/- The program's counters: a row of function values, and what they count. -/
namespace Go.Proofs.YtcgmlhlnkbjfnaaGreatDoor
set_option maxRecDepth 100000
open Go.RowKit Go.Sort M
set_option linter.unusedVariables false
set_option linter.unusedSimpArgs false

theorem ownsMap_below {w w' : World} {k : TypeId} {b n : Nat} {D : DataW Unit} (h : w.ownsMap Tryz.prog k fR b n D) (hb : Below w.heap.size w w') : w'.ownsMap Tryz.prog k fR b n D := by
  obtain ⟨es, clock, h1, h2⟩ := h
  exact ⟨es, clock, (hb.block b (Array.getElem?_eq_some_iff.1 h1).1).trans h1, h2⟩
theorem Tryz.infoTInt10 : (Tryz.prog.info? 3).map (fun i => (i.zero, i.size, i.bytes)) = some (some (.int .i64 0), 1, 8) := by kernel_rfl
theorem Tryz.infoTFn : (Tryz.prog.info? 81).map (fun i => (i.zero, i.size, i.bytes)) = some (some .nilFunc, 1, 8) := by kernel_rfl
/-- What a function value has caught. -/
def capF (j : Nat) : Array Value := if j < 6 then #[.func (.func (cidN j)) #[] #[]] else #[]
theorem fnV_form (j : Nat) : fnV j = .func (.func (entF j)) (capF j) #[] := by
  unfold fnV entF capF
  split <;> rfl
/-- Function values by their numbers; none at ten. -/
def vF (j : Nat) : Value := if j < 10 then fnV j else .nilFunc
def Rep.fn : Rep Nat where
  size := 1
  rd := fun _ _ vs j _ => vs = [vF j]
  lab := fun _ j => j
  labv := fun _ j => j
  cnt := fun _ => 0
  cntv := fun _ => 0
  sz := fun _ => 0
  len := fun h => by rw [h]; rfl
  frame := fun h _ => h
  weak := fun h => h
  mono := fun h _ => h
  tight := fun h => h
theorem vF_lt {j : Nat} (h : j < 10) : vF j = .func (.func (entF j)) (capF j) #[] := by unfold vF; rw [if_pos h, fnV_form]
def ctrs (ns : List ByteArray) : List Nat := ns.map nix
theorem ctrs_len (ns : List ByteArray) : (ctrs ns).length = ns.length := List.length_map _
set_option maxHeartbeats 4000000 in
theorem implCtrs_any (m : Nat → ByteArray) (ns : List ByteArray) (A : Option Addr) (cap : Nat) (F : Addr → Prop) (w : World) (hC : areC ns = true) (hns : RowRd (Rep.str m) false w (.slice A ns.length cap) ns F) :
    Calls Tryz.prog 41 #[.slice A ns.length cap] w (OwnPost Rep.fn (ctrs ns) w) := by
  have HCT : Hid (∀ W, Calls Tryz.prog 87 #[] W fun e w' => (∃ B, e = .returned (.map (some B)) ∧ w'.ownsMap Tryz.prog 9 fR B 10 (dputN 10)) ∧ Below W.heap.size W w') := fun W => (implCounts_any W).mono fun e w' ⟨h1, h2, h3⟩ => ⟨⟨_, h1, h2⟩, h3⟩
  have HX : Hid (∀ k, k < ns.length → ∃ y, ns[k]? = some y) := fun k hk => ⟨_, List.getElem?_eq_getElem hk⟩
  have HNS := Lib.hid hns
  have HME : Hid (∀ k y, ns[k]? = some y → nix y < 10 ∧ y.size ≤ maxLen) := fun k y hk => by
    have h1 := (areC_mem hC hk).1
    have h2 := name_size h1
    rw [hasB_nix] at h1
    exact ⟨of_decide_eq_true h1, by unfold maxLen; omega⟩
  have HP : Hid (∀ u w', RowRd Rep.fn true w' u (ctrs ns) (fun a => w.heap.size ≤ a.block) → Below w.heap.size w w' → OwnPost Rep.fn (ctrs ns) w (.returned u) w') := fun u w' h1 h2 => ⟨u, rfl, h1, h2⟩
  have hml := areC_len hC
  have HPL := Lib.hid (ctrs_len ns)
  have H0 := Lib.hid (cpTo_zero 10 (ctrs ns))
  have HCA := Lib.hid (cpTo_all 10 (ctrs ns))
  have HCAT : Hid (∀ k, k < ns.length → (cpTo 10 (ctrs ns) k)[k]? = some 10) := fun k hk => cpTo_at _ _ _ (by rw [ctrs_len]; exact hk)
  have HCST : Hid (∀ k y, ns[k]? = some y → (cpTo 10 (ctrs ns) k).set k (nix y) = cpTo 10 (ctrs ns) (k + 1)) := fun k y hk => cpTo_step _ _ _ (by unfold ctrs; rw [List.getElem?_map, hk]; rfl)
  clear hns hC
  generalize hll : ns.length = n at *
  clear hll
  obtain ⟨i0, hi, hz0, hz1, hz2⟩ := info_parts Tryz.infoTFn
  go_enter Tryz.func41, Tryz.ntmps41
  go_wp2_with fail
  refine (HCT.out _).mono ?_
  rintro e w3 ⟨⟨Bm, rfl, hown⟩, hb⟩
  have HB3 := Lib.hid hb
  have hbm : Bm < w3.heap.size := hown.lt
  have HOW := Lib.hid hown
  clear hb hown HCT
  go_wp2_with (at_make; refine wpList_make_full _ rfl _ _ 61 rfl w3.heap.size 81 i0 .nilFunc 1 Tryz.underlying61 hi hz0 hz1 .i64 .i64 _ _ n rfl rfl rfl rfl (by rw [hz2]; omega) (by unfold maxLen; omega) (Nat.le_refl _) ?_; intro w4 hown4 hgrow4)
  have hb34 : Below w3.heap.size w3 w4 := (Below.refl _ _).grown hgrow4 (Nat.le_refl _) (fun _ h => by cases h)
  have HO4 : Hid (RowRd Rep.fn true w4 (.slice (some ⟨w3.heap.size, 0, none⟩) n n) (cpTo 10 (ctrs ns) 0) (fun a => w3.heap.size ≤ a.block)) := by
    unfold Hid
    rw [H0.out, HPL.out]
    rw [show (Value.cells .nilFunc) = #[.nilFunc] from rfl] at hown4
    have hlr : (List.replicate n (10 : Nat)).length = n := List.length_replicate
    refine (RowRd.of_flat (E := Rep.fn) (l := List.replicate n 10) (base := w3.heap.size) (e := 81) (cells := (madeCells #[.nilFunc] (n * 1)).toList) (by rw [hlr]; exact hown4) (by rw [hlr]; omega) ?_).mono (fun a ha => ha.1)
    intro k y hk
    rw [List.getElem?_replicate] at hk
    split at hk
    · cases hk
      refine ⟨[.nilFunc], ?_, rfl⟩
      intro j u hj
      have hjn : j < 1 := (List.getElem?_eq_some_iff.1 hj).1
      rw [show Rep.fn.size = 1 from rfl, made_at _ _ _ (by omega) (by decide), show (#[.nilFunc] : Array Value).size = 1 from rfl, show (k * 1 + j) % 1 = j by omega]
      simpa using hj
    · cases hk
  have HB4 : Hid (Below w.heap.size w w4) := HB3.out.trans (hb34.mono HB3.out.size)
  have HOW4 := Lib.hid (ownsMap_below HOW.out hb34)
  clear hown4 hgrow4 hb34 HOW
  go_wp2
  go_loopw [13] (fun i wr => ∃ (k : Nat), k ≤ n ∧ i = .int .i64 k ∧ RowRd Rep.fn true wr (.slice (some ⟨w3.heap.size, 0, none⟩) n n) (cpTo 10 (ctrs ns) k) (fun a => w3.heap.size ≤ a.block) ∧ wr.ownsMap Tryz.prog 9 fR Bm 10 (dputN 10) ∧ Below w.heap.size w wr) (fun i _ => n - (intOf i).toNat)
  case atStart => exact ⟨0, by omega, rfl, HO4.out, HOW4.out, HB4.out⟩
  case round =>
    obtain ⟨k, hk, rfl, hrow, hmap, hbe⟩ := hrel
    obtain ⟨w5, rfl⟩ : ∃ w5 : World, w5 = wr := ⟨_, rfl⟩
    have HBE := Lib.hid hbe
    have HMP := Lib.hid hmap
    have HRW := Lib.hid hrow.tight
    clear hbe hmap hrow
    by_cases hkl : k < n
    · obtain ⟨y, hy⟩ := HX.out k hkl
      obtain ⟨hnx, hys⟩ := HME.out k y hy
      have hlk := look_plain w5 Bm y hys HMP.out hnx
      rw [fnV_form] at hlk
      have HSX := Lib.hid (HCST.out k y hy)
      obtain ⟨g, off, xs, Fk, rfl, _, hra, _, hca⟩ := (HNS.out.kept HBE.out).get hy
      obtain ⟨rfl, _⟩ := hra
      rw [show (Rep.str m).size = 1 from rfl] at hca
      have c0 := hca 0 _ rfl
      simp only [Nat.add_zero, Nat.mul_one] at c0
      clear hca hy hys
      have hrow2 := HRW.out
      obtain ⟨g2, off2, ys, Fk2, hge, hrd, hel, hFk, hcl, hput⟩ := hrow2.open (HCAT.out k hkl)
      cases hge
      simp only [show Rep.fn.size = 1 from rfl, Nat.mul_one] at hel hcl hput
      simp only [Nat.zero_add] at hel hput
      have hrd2 : ys = [vF 10] := hrd
      subst hrd2
      have d0 := hel.cell 0 rfl
      have f0 := hel.free 0 (by decide)
      simp only [Nat.zero_add, Nat.add_zero] at d0 f0
      have hs0 := hel.set 0 (by decide) (.func (.func (entF (nix y))) (capF (nix y)) #[])
      simp only [List.set, Nat.zero_add, Nat.add_zero] at hs0
      have HBB := Lib.hid (HBE.out.setCell (p := ⟨w3.heap.size, k, none⟩) (by have := HB3.out.size; exact this) (.func (.func (entF (nix y))) (capF (nix y)) #[]))
      have HMM := Lib.hid (HMP.out.setCell (a := ⟨w3.heap.size, k, none⟩) (by show Bm ≠ w3.heap.size; omega) (.func (.func (entF (nix y))) (capF (nix y)) #[]))
      have HNEW := Lib.hid ((hput _ _ (nix y) (fun _ => False) hs0 (by show _ = [vF (nix y)]; rw [vF_lt hnx]) (fun a h => h.elim)).mono (fun a h => h.elim (fun h => h.1) (fun h => h.elim)))
      rw [HSX.out] at HNEW
      clear hput hel hs0 hrd hFk hcl hrow2
      generalize entF (nix y) = q1 at *
      generalize capF (nix y) = q2 at *
      go_wp2
      go_roundw
      case rel => exact ⟨k + 1, by omega, by go_num, HNEW.out, HMM.out, HBB.out⟩
      case measure => simp [intOf]; omega
    · obtain rfl : k = n := by omega
      have hrow := HRW.out
      have hca := HCA.out
      rw [HPL.out] at hca
      rw [hca] at hrow
      have HRR := Lib.hid hrow
      clear hrow hca
      go_wp2
      go_ret
      exact HP.out _ _ (HRR.out.mono (fun a ha => Nat.le_trans HB3.out.size ha.1)) HBE.out
/-- The counts of a candidate. -/
def cntsN (js : List Nat) (l : List DLink) : List Int := js.map fun j => cntN j l
theorem cntsN_len (js : List Nat) (l : List DLink) : (cntsN js l).length = js.length := List.length_map _
theorem profN_ctrs {ns : List ByteArray} {l : List DLink} (h : areC ns = true) (h2 : isCd l = true) : profN ns l = cntsN (ctrs ns) l := by
  rw [profN_yes h h2]
  unfold profTo cntsN ctrs
  rw [List.take_length, List.map_map]
  exact List.map_congr_left fun y _ => vioN_yes h2
theorem cntN_i64 {j : Nat} (hj : j < 10) (l : List DLink) (hl : l.length ≤ 1048576) : I64 (cntN j l) := by
  have h1 : ∀ P Q, mkC P Q (outT l) ≤ 9 := fun P Q => mkC_le P Q _
  have h2 : ∀ p : DLink → Bool, cntC p l ≤ l.length := fun p => by
    unfold cntC; split
    · exact List.countP_le_length
    · omega
  have h3 : brkC l ≤ l.length := by
    unfold brkC; split
    · unfold brkL insideL
      refine Nat.le_trans List.countP_le_length ?_
      rw [List.length_drop, List.length_take]
      omega
    · omega
  unfold cntN I64
  split
  · have := h1 nconsB vowB; omega
  · have := h1 consB nvowB; omega
  · have := h1 consB consB; omega
  · have := h1 anyB vobB; omega
  · have := h1 vobB edgB; omega
  · have := h1 nasB vlsB; omega
  · have := h2 delK; omega
  · have := h2 insK; omega
  · have := h2 vchK; omega
  · omega
  · omega
theorem entF_call (j : Nat) (hj : j < 10) : ∀ args w', (callFunc (entF j) args).run Tryz.prog w' = .ok (.enter (entF j) args) w' := by
  intro args w'
  obtain rfl | rfl | rfl | rfl | rfl | rfl | rfl | rfl | rfl | rfl : j = 0 ∨ j = 1 ∨ j = 2 ∨ j = 3 ∨ j = 4 ∨ j = 5 ∨ j = 6 ∨ j = 7 ∨ j = 8 ∨ j = 9 := by omega
  · exact enters_of Tryz.func123 (by kernel_rfl) rfl args w'
  · exact enters_of Tryz.func123 (by kernel_rfl) rfl args w'
  · exact enters_of Tryz.func123 (by kernel_rfl) rfl args w'
  · exact enters_of Tryz.func123 (by kernel_rfl) rfl args w'
  · exact enters_of Tryz.func123 (by kernel_rfl) rfl args w'
  · exact enters_of Tryz.func123 (by kernel_rfl) rfl args w'
  · exact enters_of Tryz.func129 (by kernel_rfl) rfl args w'
  · exact enters_of Tryz.func130 (by kernel_rfl) rfl args w'
  · exact enters_of Tryz.func131 (by kernel_rfl) rfl args w'
  · exact enters_of Tryz.func132 (by kernel_rfl) rfl args w'
theorem entA_cap (j : Nat) (v : Value) : (capF j).push (.agg #[v]) = entA j v := by
  unfold capF entA
  split <;> rfl
set_option maxHeartbeats 4000000 in
theorem implProfOf_any (js : List Nat) (hj : ∀ j ∈ js, j < 10) (A : Option Addr) (cap : Nat) (F : Addr → Prop) (x : DCandidate) (B : Option Addr) (q : Nat) (G : Addr → Prop) (w : World) (hn : js.length ≤ 1048576) (hl : x.Links.length ≤ 1048576) (hjs : RowRd Rep.fn false w (.slice A js.length cap) js F) (hv : RowRd rLink false w (.slice B x.Links.length q) x.Links G) (hT : FeatTab w) :
    Calls Tryz.prog 44 #[.slice A js.length cap, .agg #[.slice B x.Links.length q]] w (OwnPost Rep.int (cntsN js x.Links) w) := by
  have hq := hv.cap_le
  have HFN : Hid (∀ j, j < 10 → ∀ W, Below w.heap.size w W → Calls Tryz.prog (entF j) (entA j (.slice B x.Links.length q)) W fun e w' => e = .returned (.int .i64 (cntN j x.Links)) ∧ Below W.heap.size W w') := fun j hj W hW => fnV_any j hj x B q G W hl hq (hv.kept hW) (feat_below hT hW)
  have HX : Hid (∀ k, k < js.length → ∃ y, js[k]? = some y) := fun k hk => ⟨_, List.getElem?_eq_getElem hk⟩
  have HJS := Lib.hid hjs
  have HJ : Hid (∀ k y, js[k]? = some y → y < 10) := fun k y hk => hj y (List.mem_of_getElem? hk)
  have HIY : Hid (∀ j, j < 10 → I64 (cntN j x.Links)) := fun j hj => cntN_i64 hj _ hl
  have HP : Hid (∀ u w', RowRd Rep.int true w' u (cntsN js x.Links) (fun a => w.heap.size ≤ a.block) → Below w.heap.size w w' → OwnPost Rep.int (cntsN js x.Links) w (.returned u) w') := fun u w' h1 h2 => ⟨u, rfl, h1, h2⟩
  have HPL := Lib.hid (cntsN_len js x.Links)
  have H0 := Lib.hid (cpTo_zero (0 : Int) (cntsN js x.Links))
  have HCA := Lib.hid (cpTo_all (0 : Int) (cntsN js x.Links))
  have HCAT : Hid (∀ k, k < js.length → (cpTo (0 : Int) (cntsN js x.Links) k)[k]? = some 0) := fun k hk => cpTo_at _ _ _ (by rw [cntsN_len]; exact hk)
  have HCST : Hid (∀ k y, js[k]? = some y → (cpTo (0 : Int) (cntsN js x.Links) k).set k (cntN y x.Links) = cpTo (0 : Int) (cntsN js x.Links) (k + 1)) := fun k y hk => cpTo_step _ _ _ (by unfold cntsN; rw [List.getElem?_map, hk]; rfl)
  have HA : Hid (∀ o, Below w.heap.size w (w.alloc o)) := fun o => (Below.refl _ _).alloc (Nat.le_refl _) _
  have HA1 : Hid (InC (w.alloc (.cells #[.slice B x.Links.length q] 59)) w.heap.size #[.slice B x.Links.length q] 59) := heap_alloc_new _ _
  clear hjs hv hT hj hq
  generalize hll : js.length = n at *
  clear hll
  obtain ⟨i0, hi, hz0, hz1, hz2⟩ := info_parts Tryz.infoTInt10
  go_enter Tryz.func44, Tryz.ntmps44
  go_wp2_with (at_make; refine wpList_make_full _ rfl _ _ 44 rfl (w.heap.size + 1) 3 i0 (.int .i64 0) 1 Tryz.underlying44 hi hz0 hz1 .i64 .i64 _ _ n rfl rfl rfl rfl (by rw [hz2]; omega) (by unfold maxLen; omega) (by simp) ?_; intro w4 hown4 hgrow4)
  have hb34 : Below (w.heap.size + 1) (w.alloc (.cells #[.slice B x.Links.length q] 59)) w4 := (Below.refl _ _).grown hgrow4 (by simp) (fun _ h => by cases h)
  have HX4 : Hid (InC w4 w.heap.size #[.slice B x.Links.length q] 59) := HA1.out.keptB hb34 (by omega)
  have HO4 : Hid (RowRd Rep.int true w4 (.slice (some ⟨w.heap.size + 1, 0, none⟩) n n) (cpTo (0 : Int) (cntsN js x.Links) 0) (fun a => w.heap.size + 1 ≤ a.block)) := by
    unfold Hid
    rw [H0.out, HPL.out]
    rw [show (Value.cells (.int .i64 0)) = #[.int .i64 0] from rfl] at hown4
    have hlr : (List.replicate n (0 : Int)).length = n := List.length_replicate
    refine (RowRd.of_flat (E := Rep.int) (l := List.replicate n 0) (base := w.heap.size + 1) (e := 3) (cells := (madeCells #[.int .i64 0] (n * 1)).toList) (by rw [hlr]; first | exact hown4 | (show w4.ownsRow _ 3 1 _ _ _; simpa using hown4)) (by rw [hlr]; omega) ?_).mono (fun a ha => ha.1)
    intro k y hk
    rw [List.getElem?_replicate] at hk
    split at hk
    · cases hk
      refine ⟨[.int .i64 0], ?_, ⟨rfl, by unfold I64; omega⟩⟩
      intro j u hj
      have hjn : j < 1 := (List.getElem?_eq_some_iff.1 hj).1
      rw [show Rep.int.size = 1 from rfl, made_at _ _ _ (by omega) (by decide), show (#[.int .i64 0] : Array Value).size = 1 from rfl, show (k * 1 + j) % 1 = j by omega]
      simpa using hj
    · cases hk
  have HB4 : Hid (Below w.heap.size w w4) := (HA.out _).trans (hb34.mono (by omega))
  clear hown4 hgrow4 hb34
  go_wp2
  go_loopw [13] (fun i wr => ∃ (k : Nat), k ≤ n ∧ i = .int .i64 k ∧ RowRd Rep.int true wr (.slice (some ⟨w.heap.size + 1, 0, none⟩) n n) (cpTo (0 : Int) (cntsN js x.Links) k) (fun a => w.heap.size + 1 ≤ a.block) ∧ InC wr w.heap.size #[.slice B x.Links.length q] 59 ∧ Below w.heap.size w wr) (fun i _ => n - (intOf i).toNat)
  case atStart => exact ⟨0, by omega, rfl, HO4.out, HX4.out, HB4.out⟩
  case round =>
    obtain ⟨k, hk, rfl, hrow, hbox, hbe⟩ := hrel
    obtain ⟨w5, rfl⟩ : ∃ w5 : World, w5 = wr := ⟨_, rfl⟩
    have HBE := Lib.hid hbe
    have HBX := Lib.hid hbox
    have HRW := Lib.hid hrow.tight
    clear hbe hbox hrow
    by_cases hkl : k < n
    · obtain ⟨i, hy⟩ := HX.out k hkl
      have hi10 := HJ.out k i hy
      have HSX := Lib.hid (HCST.out k i hy)
      have HIQ := Lib.hid (HIY.out i hi10)
      obtain ⟨g, off, xs, Fk, rfl, _, hra, _, hca⟩ := (HJS.out.kept HBE.out).get hy
      have hra2 : xs = [vF i] := hra
      rw [vF_lt hi10] at hra2
      subst hra2
      rw [show Rep.fn.size = 1 from rfl] at hca
      have c0 := hca 0 _ rfl
      simp only [Nat.add_zero, Nat.mul_one] at c0
      have b5 := HBX.out.cell 0 rfl
      have HC := Lib.hid (HFN.out i hi10)
      have HE := Lib.hid (entF_call i hi10)
      have HEA := Lib.hid (entA_cap i (.slice B x.Links.length q))
      clear hca hy hra
      generalize cntN i x.Links = z at *
      generalize hq1 : entF i = q1 at *
      generalize hq2 : capF i = q2 at *
      generalize hq3 : entA i (.slice B x.Links.length q) = q3 at *
      clear hq1 hq2 hq3
      go_wp2_with fail
      rw [HE.out, Oper.upon_enter, HEA.out]
      refine (HC.out _ HBE.out).mono ?_
      rintro e w6 ⟨rfl, hb⟩
      have HB6 : Hid (Below w.heap.size w w6) := below_step HBE.out hb
      have HX6 := Lib.hid (HBX.out.kept hb)
      have hrow2 := HRW.out.kept hb
      clear hb c0 b5
      obtain ⟨g2, off2, ys, Fk2, hge, hrd, hel, hFk, hcl, hput⟩ := hrow2.open (HCAT.out k hkl)
      cases hge
      simp only [show Rep.int.size = 1 from rfl, Nat.mul_one] at hel hcl hput
      simp only [Nat.zero_add] at hel hput
      obtain ⟨rfl, _⟩ := id hrd
      have d0 := hel.cell 0 rfl
      have f0 := hel.free 0 (by decide)
      simp only [Nat.zero_add, Nat.add_zero] at d0 f0
      have hs0 := hel.set 0 (by decide) (.int .i64 z)
      simp only [List.set, Nat.zero_add, Nat.add_zero] at hs0
      have HBB := Lib.hid (HB6.out.setCell (p := ⟨w.heap.size + 1, k, none⟩) (by simp) (.int .i64 z))
      have HXX : Hid (InC (w6.setCell ⟨w.heap.size + 1, k, none⟩ (.int .i64 z)) w.heap.size #[.slice B x.Links.length q] 59) := HX6.out.other (p := ⟨w.heap.size + 1, k, none⟩) (by simp) _
      have HNEW := Lib.hid ((hput _ _ z (fun _ => False) hs0 (⟨rfl, HIQ.out⟩) (fun a h => h.elim)).mono (fun a h => h.elim (fun h => h.1) (fun h => h.elim)))
      rw [HSX.out] at HNEW
      clear hput hel hs0 hrd hFk hcl hrow2
      go_wp2
      go_roundw
      case rel => exact ⟨k + 1, by omega, by go_num, HNEW.out, HXX.out, HBB.out⟩
      case measure => simp [intOf]; omega
    · obtain rfl : k = n := by omega
      have hrow := HRW.out
      have hca := HCA.out
      rw [HPL.out] at hca
      rw [hca] at hrow
      have HRR := Lib.hid hrow
      clear hrow hca
      go_wp2
      go_ret
      exact HP.out _ _ (HRR.out.mono (fun a ha => by have := ha.1; omega)) HBE.out
theorem ctrs_lt {ns : List ByteArray} (h : areC ns = true) : ∀ j ∈ ctrs ns, j < 10 := by
  intro j hj
  unfold ctrs at hj
  obtain ⟨y, hy, rfl⟩ := List.mem_map.1 hj
  obtain ⟨k, hk⟩ := List.getElem?_of_mem hy
  have h1 := (areC_mem h hk).1
  rw [hasB_nix] at h1
  exact of_decide_eq_true h1
end Go.Proofs.YtcgmlhlnkbjfnaaGreatDoor

/- The program's InputOf: what it answers. -/
namespace Go.Proofs.YtcgmlhlnkbjfnaaGreatDoor
set_option maxRecDepth 100000
open Go.RowKit M
set_option linter.unusedVariables false
set_option linter.unusedSimpArgs false

theorem implInput_any (x : DCandidate) (v : Value) (F : Addr → Prop) (w : World) (hl : x.Links.length ≤ 1048576) (hv : RowRd rLink false w v x.Links F) :
    Calls Tryz.prog 62 #[.agg #[v]] w fun e w' => e = .returned (.string ⟨(inS x.Links).toArray⟩) ∧ Below w.heap.size w w' := by
  have HS0 : Hid (∀ W, Below w.heap.size w W → Calls Tryz.prog 61 #[.agg #[v]] W fun e w' => e = .returned (.bool (isCd x.Links)) ∧ Below W.heap.size W w') := fun W hW => implIsCd_any x _ F W hl (hv.kept hW)
  have HS1 : Hid (∀ W, Below w.heap.size w W → Calls Tryz.prog 102 #[v] W fun e w' => e = .returned (.tuple #[.string ⟨(inL x.Links).toArray⟩, .string ⟨(outL x.Links).toArray⟩]) ∧ Below W.heap.size W w') := fun W hW => implSides_any x.Links _ F W hl (hv.kept hW)
  obtain ⟨A, cap, rfl⟩ := hv.form
  clear hv
  have HE : Hid (inS x.Links = if isCd x.Links then inL x.Links else []) := rfl
  generalize isCd x.Links = c at *
  generalize inS x.Links = r at *
  have HA : Hid (∀ o, Below w.heap.size w (w.alloc o)) := fun o => (Below.refl _ _).alloc (Nat.le_refl _) _
  have HA1 : Hid (InC (w.alloc (.cells #[.slice A x.Links.length cap] 59)) w.heap.size #[.slice A x.Links.length cap] 59) := heap_alloc_new _ _
  go_enter Tryz.func62, Tryz.ntmps62
  go_wp2_with fail
  refine (HS0.out _ (HA.out _)).mono ?_
  rintro e w2 ⟨rfl, hb⟩
  have b1 := (HA1.out.kept hb).cell 0 rfl
  have HB : Hid (Below w.heap.size w w2) := below_step (HA.out _) hb
  clear hb
  cases c
  · go_wp2_with fail
    go_ret
    exact ⟨ret_str (by rw [HE.out] <;> rfl), HB.out⟩
  · go_wp2_with fail
    refine (HS1.out _ HB.out).mono ?_
    rintro e w3 ⟨rfl, hb⟩
    have HB3 : Hid (Below w.heap.size w w3) := below_step HB.out hb
    clear hb
    go_wp2_with fail
    go_ret
    exact ⟨ret_str (by rw [HE.out] <;> rfl), HB3.out⟩
end Go.Proofs.YtcgmlhlnkbjfnaaGreatDoor

/- The program's IsTableau: what it answers. -/
namespace Go.Proofs.YtcgmlhlnkbjfnaaGreatDoor
set_option maxRecDepth 100000
open Go.RowKit Go.Sort M
set_option linter.unusedVariables false
set_option linter.unusedSimpArgs false

set_option maxHeartbeats 16000000 in
theorem implTab_any (x : DTableau) (A1 : Option Addr) (c1 : Nat) (A2 : Option Addr) (c2 : Nat) (A3 : Option Addr) (c3 : Nat) (F1 F2 F3 : Addr → Prop) (w : World) (hm : rTableau.sz x ≤ 1048576) (hv : TabRd false w (.slice A1 x.Names.length c1) (.slice A2 x.Rows.length c2) (.slice A3 x.Marks.length c3) x F1 F2 F3) (hT : FeatTab w) :
    Calls Tryz.prog 21 #[.agg #[.string x.Input, .slice A1 x.Names.length c1, .slice A2 x.Rows.length c2, .slice A3 x.Marks.length c3]] w fun e w' => e = .returned (.bool (isTab x)) ∧ Below w.heap.size w w' := by
  obtain ⟨hz0, hz1, hz2, hz3, hz4, hz5⟩ := szTab_parts hm
  have hcap1 := hv.names.cap_le
  have HZ4 := Lib.hid hz4
  have HV := Lib.hid hv
  have HSA : Hid (∀ W, Below w.heap.size w W → Calls Tryz.prog 38 #[.slice A1 x.Names.length c1] W fun e w' => e = .returned (.bool (areC x.Names)) ∧ Below W.heap.size W w') := fun W hW => implAre_any mkT x.Names A1 c1 F1 W (by omega) hcap1 (hv.names.kept hW)
  have HSF : Hid (∀ W, Calls Tryz.prog 39 #[.string x.Input] W fun e w' => e = .returned (.bool (isFm x.Input)) ∧ W = w') := fun W => implFmS_any x.Input W (by unfold maxLen; omega)
  have HCO : Hid (areC x.Names = true → ∀ W, Below w.heap.size w W → Calls Tryz.prog 41 #[.slice A1 x.Names.length c1] W (OwnPost Rep.fn (ctrs x.Names) W)) := fun h W hW => implCtrs_any mkT x.Names A1 c1 F1 W h (hv.names.kept hW)
  have HSI : Hid (∀ (c : DCandidate) (v : Value) (G : Addr → Prop) W, c.Links.length ≤ 1048576 → RowRd rLink false W v c.Links G → Calls Tryz.prog 62 #[.agg #[v]] W fun e w' => e = .returned (.string (inT c.Links)) ∧ Below W.heap.size W w') := fun c v G W hl hr => implInput_any c v G W hl hr
  have HSC : Hid (∀ (c : DCandidate) (v : Value) (G : Addr → Prop) W, c.Links.length ≤ 1048576 → RowRd rLink false W v c.Links G → Calls Tryz.prog 61 #[.agg #[v]] W fun e w' => e = .returned (.bool (isCd c.Links)) ∧ Below W.heap.size W w') := fun c v G W hl hr => implIsCd_any c v G W hl hr
  have HSP : Hid (areC x.Names = true → ∀ (A4 : Option Addr) (c4 : Nat) (F4 : Addr → Prop) (c : DCandidate) (B : Option Addr) (q : Nat) (G : Addr → Prop) W, c.Links.length ≤ 1048576 → Below w.heap.size w W → RowRd Rep.fn false W (.slice A4 (ctrs x.Names).length c4) (ctrs x.Names) F4 → RowRd rLink false W (.slice B c.Links.length q) c.Links G → Calls Tryz.prog 44 #[.slice A4 (ctrs x.Names).length c4, .agg #[.slice B c.Links.length q]] W (OwnPost Rep.int (cntsN (ctrs x.Names) c.Links) W)) := fun h A4 c4 F4 c B q G W hl hW hr hr2 => implProfOf_any (ctrs x.Names) (ctrs_lt h) A4 c4 F4 c B q G W (by rw [ctrs_len]; exact hz1) hl hr hr2 (feat_below hT hW)
  have HX2 : Hid (∀ k, k < x.Rows.length → ∃ y, x.Rows[k]? = some y) := fun k hk => ⟨_, List.getElem?_eq_getElem hk⟩
  have HX3 : Hid (∀ k, k < x.Marks.length → ∃ y, x.Marks[k]? = some y) := fun k hk => ⟨_, List.getElem?_eq_getElem hk⟩
  have HHD : Hid (headT x = (areC x.Names && (isFm x.Input && ((decide (1 ≤ (x.Rows.length : Int)) && decide ((x.Rows.length : Int) ≤ 250)) && decide ((x.Marks.length : Int) = (x.Rows.length : Int)))))) := rfl
  have HHF := Lib.hid (isTab_head (x := x))
  have HBD : Hid (∀ k, k < x.Rows.length → rowAt x k = false → isTab x = false) := fun k h1 h2 => isTab_bad h1 h2
  have HGD : Hid (headT x = true → (∀ k, k < x.Rows.length → rowAt x k = true) → isTab x = true) := isTab_good
  have HRA : Hid (areC x.Names = true → ∀ (k : Nat) (c : DCandidate) (m : List Int), x.Rows[k]? = some c → x.Marks[k]? = some m → rowAt x k = (isCd c.Links && (decide (inT c.Links = x.Input) && decide (m = cntsN (ctrs x.Names) c.Links)))) := fun h k c m h1 h2 => by
    rw [rowAt_of h1 h2]
    unfold rowOk
    cases hc : isCd c.Links with
    | false => rfl
    | true => rw [profN_ctrs h hc]
  clear hv hz4 hz5 hm hT
  have HA : Hid (∀ o, Below w.heap.size w (w.alloc o)) := fun o => (Below.refl _ _).alloc (Nat.le_refl _) _
  have HA1 : Hid (InC (w.alloc (.cells #[.string x.Input, .slice A1 x.Names.length c1, .slice A2 x.Rows.length c2, .slice A3 x.Marks.length c3] 27)) w.heap.size #[.string x.Input, .slice A1 x.Names.length c1, .slice A2 x.Rows.length c2, .slice A3 x.Marks.length c3] 27) := heap_alloc_new _ _
  go_enter Tryz.func21, Tryz.ntmps21
  go_wp2_with fail
  refine (HSA.out _ (HA.out _)).mono ?_
  rintro e w1 ⟨rfl, hb⟩
  have HB1 : Hid (Below w.heap.size w w1) := below_step (HA.out _) hb
  have HX1 := Lib.hid (HA1.out.kept hb)
  have b0 := HX1.out.cell 0 rfl
  have b1 := HX1.out.cell 1 rfl
  have b2 := HX1.out.cell 2 rfl
  have b3 := HX1.out.cell 3 rfl
  clear hb
  cases ha : areC x.Names with
  | false =>
    have HN : Hid (isTab x = false) := HHF.out (by rw [HHD.out, ha]; rfl)
    go_wp2_with fail
    go_ret
    exact ⟨ret_bool HN.out.symm, HB1.out⟩
  | true =>
  go_wp2_with fail
  refine (HSF.out _).mono ?_
  rintro e w1' ⟨rfl, rfl⟩
  cases hf : isFm x.Input with
  | false =>
    have HN : Hid (isTab x = false) := HHF.out (by rw [HHD.out, ha, hf]; rfl)
    go_wp2_with fail
    go_ret
    exact ⟨ret_bool HN.out.symm, HB1.out⟩
  | true =>
  by_cases hr1 : (1 ≤ (x.Rows.length : Int))
  case neg =>
    have HN : Hid (isTab x = false) := HHF.out (by rw [HHD.out, ha, hf, decide_eq_false hr1]; simp)
    have e1 : decide ((x.Rows.length : Int) < 1) = true := decide_eq_true (by omega)
    clear ha hf hr1
    go_wp2_with fail
    go_ret
    exact ⟨ret_bool HN.out.symm, HB1.out⟩
  by_cases hr2 : ((x.Rows.length : Int) ≤ 250)
  case neg =>
    have HN : Hid (isTab x = false) := HHF.out (by rw [HHD.out, ha, hf, decide_eq_false hr2]; simp)
    have e1 : decide ((x.Rows.length : Int) < 1) = false := decide_eq_false (by omega)
    have e2 : decide ((250 : Int) < (x.Rows.length : Int)) = true := decide_eq_true (by omega)
    clear ha hf hr1 hr2
    go_wp2_with fail
    go_ret
    exact ⟨ret_bool HN.out.symm, HB1.out⟩
  have e1 : decide ((x.Rows.length : Int) < 1) = false := decide_eq_false (by omega)
  have e2 : decide ((250 : Int) < (x.Rows.length : Int)) = false := decide_eq_false (by omega)
  by_cases hml : (x.Marks.length : Int) = (x.Rows.length : Int)
  case neg =>
    have HN : Hid (isTab x = false) := HHF.out (by rw [HHD.out, ha, hf, decide_eq_false hml]; simp)
    have e3 : ((x.Marks.length : Int) != (x.Rows.length : Int)) = true := by simpa using hml
    clear ha hf
    go_wp2_with fail
    go_ret
    exact ⟨ret_bool HN.out.symm, HB1.out⟩
  have e3 : ((x.Marks.length : Int) != (x.Rows.length : Int)) = false := by simpa using hml
  have HHT : Hid (headT x = true) := by unfold Hid; rw [HHD.out, ha, hf, decide_eq_true hr1, decide_eq_true hr2, decide_eq_true hml]; rfl
  have HCA := Lib.hid (HCO.out ha)
  have HPA := Lib.hid (HSP.out ha)
  have HRB := Lib.hid (HRA.out ha)
  clear ha hf HHD HHF HCO HSP HRA
  have hml2 : x.Marks.length = x.Rows.length := by omega
  go_wp2_with fail
  refine (HCA.out _ HB1.out).mono ?_
  rintro e w3 ⟨u4, rfl, hr4, hb⟩
  obtain ⟨A4, c4, rfl⟩ := hr4.form
  have HB3 : Hid (Below w.heap.size w w3) := below_step HB1.out hb
  have HX3' := Lib.hid (HX1.out.kept hb)
  have HR4 := Lib.hid hr4.weak
  clear hb hr4 b0 b1 b2 b3 HX1 HCA e1 e2 e3
  have b2 := HX3'.out.cell 2 rfl
  go_wp2
  clear b2
  go_loopw [41] (fun i wr => ∃ (k : Nat), k ≤ x.Rows.length ∧ i = .int .i64 k ∧ Hid (∀ j, j < k → rowAt x j = true) ∧ Below w3.heap.size w3 wr) (fun i _ => x.Rows.length - (intOf i).toNat)
  case atStart => exact ⟨0, by omega, rfl, fun j hj => by omega, Below.refl _ _⟩
  case round =>
    obtain ⟨k, hk, rfl, hall, hbe0⟩ := hrel
    obtain ⟨w2, rfl⟩ : ∃ w2 : World, w2 = wr := ⟨_, rfl⟩
    have HB := Lib.hid hbe0
    have HBW := Lib.hid (below_step HB3.out hbe0)
    have HBX := Lib.hid (HX3'.out.kept hbe0)
    clear hbe0
    by_cases hkl : k < x.Rows.length
    · obtain ⟨c, hc⟩ := HX2.out k hkl
      obtain ⟨m, hmk⟩ := HX3.out k (by omega)
      have HL := Lib.hid (HZ4.out k c hc)
      have HRK := Lib.hid (HRB.out k c m hc hmk)
      obtain ⟨g2, o2, xs2, G2, rfl, _, hr2', _, hc2⟩ := (HV.out.rows.kept HBW.out).get hc
      obtain ⟨v2, rfl, q2⟩ := rCandidate_rd hr2'
      obtain ⟨g3, o3, xs3, G3, rfl, _, hr3', _, hc3⟩ := (HV.out.marks.kept HBW.out).get hmk
      obtain ⟨v3, rfl, q3⟩ := id hr3'
      rw [rCandidate_size] at hc2
      rw [show (Rep.row Rep.int).size = 1 from rfl] at hc3
      have d2 := hc2 0 _ rfl
      have d3 := hc3 0 _ rfl
      simp only [Nat.add_zero, Nat.mul_one] at d2 d3
      obtain ⟨A2', cp2, rfl⟩ := q2.form
      obtain ⟨A3', cp3, rfl⟩ := q3.form
      have HWB : Hid (Below w2.heap.size w2 (w2.alloc (.cells #[.slice A2' c.Links.length cp2] 59))) := (Below.refl _ _).alloc (Nat.le_refl _) _
      have HIB : Hid (InC (w2.alloc (.cells #[.slice A2' c.Links.length cp2] 59)) w2.heap.size #[.slice A2' c.Links.length cp2] 59) := heap_alloc_new _ _
      have HW2 : Hid (∀ W : World, Below (w2.alloc (.cells #[.slice A2' c.Links.length cp2] 59)).heap.size (w2.alloc (.cells #[.slice A2' c.Links.length cp2] 59)) W → Below w2.heap.size w2 W) := fun W hW => below_step HWB.out hW
      have HC3 : Hid (∀ W : World, Below (w2.alloc (.cells #[.slice A2' c.Links.length cp2] 59)).heap.size (w2.alloc (.cells #[.slice A2' c.Links.length cp2] 59)) W → W.cell? ⟨g3, o3 + k, none⟩ = some (.slice A3' m.length cp3)) := fun W hW => cell_kept (HW2.out W hW) d3
      have HC4 : Hid (∀ W : World, Below (w2.alloc (.cells #[.slice A2' c.Links.length cp2] 59)).heap.size (w2.alloc (.cells #[.slice A2' c.Links.length cp2] 59)) W → W.cell? ⟨w2.heap.size, 0, none⟩ = some (.slice A2' c.Links.length cp2)) := fun W hW => (HIB.out.kept hW).cell 0 rfl
      have HW : Hid (∀ W : World, Below (w2.alloc (.cells #[.slice A2' c.Links.length cp2] 59)).heap.size (w2.alloc (.cells #[.slice A2' c.Links.length cp2] 59)) W → Below w.heap.size w W) := fun W hW => below_step HBW.out (HW2.out W hW)
      have HQ2 := Lib.hid q2
      have HQ3 := Lib.hid q3
      have HBD2 := Lib.hid (HBD.out k hkl)
      have hkm : (k : Int) < (x.Marks.length : Int) := by omega
      have hkr : (k : Int) < (x.Rows.length : Int) := by omega
      have HB0 : Hid (∀ W : World, Below (w2.alloc (.cells #[.slice A2' c.Links.length cp2] 59)).heap.size (w2.alloc (.cells #[.slice A2' c.Links.length cp2] 59)) W → W.cell? ⟨w.heap.size, 0, none⟩ = some (.string x.Input)) := fun W hW => (HBX.out.kept (HW2.out W hW)).cell 0 rfl
      have HB3' : Hid (∀ W : World, Below (w2.alloc (.cells #[.slice A2' c.Links.length cp2] 59)).heap.size (w2.alloc (.cells #[.slice A2' c.Links.length cp2] 59)) W → W.cell? ⟨w.heap.size, 3, none⟩ = some (.slice (some ⟨g3, o3, none⟩) x.Marks.length c3)) := fun W hW => (HBX.out.kept (HW2.out W hW)).cell 3 rfl
      have HIN : Hid (∀ W, Below (w2.alloc (.cells #[.slice A2' c.Links.length cp2] 59)).heap.size (w2.alloc (.cells #[.slice A2' c.Links.length cp2] 59)) W → Calls Tryz.prog 62 #[.agg #[.slice A2' c.Links.length cp2]] W fun e w' => e = .returned (.string (inT c.Links)) ∧ Below W.heap.size W w') := fun W hW => HSI.out c _ G2 W HL.out (HQ2.out.kept (HW2.out W hW))
      have HIC : Hid (∀ W, Below (w2.alloc (.cells #[.slice A2' c.Links.length cp2] 59)).heap.size (w2.alloc (.cells #[.slice A2' c.Links.length cp2] 59)) W → Calls Tryz.prog 61 #[.agg #[.slice A2' c.Links.length cp2]] W fun e w' => e = .returned (.bool (isCd c.Links)) ∧ Below W.heap.size W w') := fun W hW => HSC.out c _ G2 W HL.out (HQ2.out.kept (HW2.out W hW))
      have HPF : Hid (∀ W, Below (w2.alloc (.cells #[.slice A2' c.Links.length cp2] 59)).heap.size (w2.alloc (.cells #[.slice A2' c.Links.length cp2] 59)) W → Calls Tryz.prog 44 #[.slice A4 (ctrs x.Names).length c4, .agg #[.slice A2' c.Links.length cp2]] W (OwnPost Rep.int (cntsN (ctrs x.Names) c.Links) W)) := fun W hW => HPA.out A4 c4 _ c A2' cp2 G2 W HL.out (HW.out W hW) ((HR4.out.kept HB.out).kept (HW2.out W hW)) (HQ2.out.kept (HW2.out W hW))
      have HSE : Hid (∀ W (u : Value) (G : Addr → Prop), Below (w2.alloc (.cells #[.slice A2' c.Links.length cp2] 59)).heap.size (w2.alloc (.cells #[.slice A2' c.Links.length cp2] 59)) W → RowRd Rep.int false W u (cntsN (ctrs x.Names) c.Links) G → Calls Tryz.prog 63 #[.slice A3' m.length cp3, u] W fun e w' => e = .returned (.bool (decide (m = cntsN (ctrs x.Names) c.Links))) ∧ Below W.heap.size W w') := fun W u G hW hu => sliceEq_any _ u m _ G3 G W (HQ3.out.kept (HW2.out W hW)) hu
      have hne : ((inT c.Links).toList == x.Input.toList) = decide (inT c.Links = x.Input) := txt_eq _ _
      have HRO := Lib.hid HRK.out
      clear hc hmk hr2' hr3' hc2 hc3 d3 q2 q3 HRK HQ2 HQ3 HL HSI HSC HPA HZ4 HX2 HX3 HRB
      generalize hbi : decide (inT c.Links = x.Input) = bi at *
      generalize hbc : isCd c.Links = bc at *
      generalize hbm : decide (m = cntsN (ctrs x.Names) c.Links) = bm at *
      generalize ctrs x.Names = js at *
      clear hbi hbc hbm
      go_upto_region 9 with fail
      clear d2
      go_cut [67] (fun b wx => b = .bool (!rowAt x k) ∧ Below w2.heap.size w2 wx)
      case first =>
        refine wp_region_held_drew (S := fun w' => Below (w2.alloc (.cells #[.slice A2' c.Links.length cp2] 59)).heap.size (w2.alloc (.cells #[.slice A2' c.Links.length cp2] 59)) w') (by kernel_rfl) ((Below.refl _ _).drew) (fun hHeld => ?_)
        cases bc
        · refine' wpAnyH_take (i := 0) (oi := _) (v := ?v1) rfl ?hs1 ?hf1 ?hr1 ?hQ1 (Or.inl ⟨?hw1, ?hy1⟩) hHeld ?rest1
          case hs1 => kernel_rfl
          case hf1 => kernel_rfl
          case hr1 => kernel_rfl
          case hQ1 => exact fun _ _ _ h => h
          case hw1 => kernel_rfl
          case hy1 => (intro w' hw'; have c0 := HB0.out _ hw'; have c3' := HB3'.out _ hw'; have c4' := HC4.out _ hw'; have c5' := HC3.out _ hw'; go_simp; try with_reducible rfl)
          (try change wpAnyH _ _ _ _ _ _ _ (Act.put _ (some 46) _) _)
          try simp only [Act.put, List.setIfInBounds_toArray, List.set_cons_zero, List.set_cons_succ]
          refine wpAnyH_ready (rs := [1]) (by kernel_rfl) (by simp) ?_
          refine AllReadyH.cons rfl (fun K hK => ?_) AllReadyH.nil
          go_simp
          go_at_call 61; refine (HIC.out _ hHeld).mono ?_; rintro e wb ⟨rfl, hba⟩; have hbe := below_step hHeld hba; clear hba
          (try go_wp2_with fail)
          refine hK.out _ _ hbe (fun hHeld => ?_)
          clear hK K
          try simp only [Act.put, List.setIfInBounds_toArray, List.set_cons_zero, List.set_cons_succ]
          refine' wpAnyH_take (i := 2) (oi := _) (v := ?v2) rfl ?hs2 ?hf2 ?hr2 ?hQ2 (Or.inl ⟨?hw2, ?hy2⟩) hHeld ?rest2
          case hs2 => kernel_rfl
          case hf2 => kernel_rfl
          case hr2 => kernel_rfl
          case hQ2 => exact fun _ _ _ h => h
          case hw2 => kernel_rfl
          case hy2 => (intro w' hw'; go_simp; try with_reducible rfl)
          (try change wpAnyH _ _ _ _ _ _ _ (Act.put _ (some 48) _) _)
          try simp only [Act.put, List.setIfInBounds_toArray, List.set_cons_zero, List.set_cons_succ]
          refine' wpAnyH_take (i := 3) (oi := _) (v := ?v3) rfl ?hs3 ?hf3 ?hr3 ?hQ3 (Or.inl ⟨?hw3, ?hy3⟩) hHeld ?rest3
          case hs3 => kernel_rfl
          case hf3 => kernel_rfl
          case hr3 => kernel_rfl
          case hQ3 => exact fun _ _ _ h => h
          case hw3 => kernel_rfl
          case hy3 => (intro w' hw'; go_simp; try with_reducible rfl)
          (try change wpAnyH _ _ _ _ _ _ _ (Act.put _ (some 49) _) _)
          try simp only [Act.put, List.setIfInBounds_toArray, List.set_cons_zero, List.set_cons_succ]
          refine' wpAnyH_take (i := 4) (oi := _) (v := undef) rfl ?hs4 ?hf4 ?hr4 ?hQ4 (Or.inr ⟨?hw4, rfl⟩) hHeld ?rest4
          case hs4 => kernel_rfl
          case hf4 => kernel_rfl
          case hr4 => kernel_rfl
          case hQ4 => exact fun _ _ _ h => h
          case hw4 => kernel_rfl
          (try change wpAnyH _ _ _ _ _ _ _ (Act.put _ (some 50) _) _)
          try simp only [Act.put, List.setIfInBounds_toArray, List.set_cons_zero, List.set_cons_succ]
          refine' wpAnyH_take (i := 5) (oi := _) (v := undef) rfl ?hs5 ?hf5 ?hr5 ?hQ5 (Or.inr ⟨?hw5, rfl⟩) hHeld ?rest5
          case hs5 => kernel_rfl
          case hf5 => kernel_rfl
          case hr5 => kernel_rfl
          case hQ5 => exact fun _ _ _ h => h
          case hw5 => kernel_rfl
          (try change wpAnyH _ _ _ _ _ _ _ (Act.put _ (some 51) _) _)
          try simp only [Act.put, List.setIfInBounds_toArray, List.set_cons_zero, List.set_cons_succ]
          refine' wpAnyH_take (i := 6) (oi := _) (v := undef) rfl ?hs6 ?hf6 ?hr6 ?hQ6 (Or.inr ⟨?hw6, rfl⟩) hHeld ?rest6
          case hs6 => kernel_rfl
          case hf6 => kernel_rfl
          case hr6 => kernel_rfl
          case hQ6 => exact fun _ _ _ h => h
          case hw6 => kernel_rfl
          (try change wpAnyH _ _ _ _ _ _ _ (Act.put _ (some 52) _) _)
          try simp only [Act.put, List.setIfInBounds_toArray, List.set_cons_zero, List.set_cons_succ]
          refine' wpAnyH_take (i := 7) (oi := _) (v := undef) rfl ?hs7 ?hf7 ?hr7 ?hQ7 (Or.inr ⟨?hw7, rfl⟩) hHeld ?rest7
          case hs7 => kernel_rfl
          case hf7 => kernel_rfl
          case hr7 => kernel_rfl
          case hQ7 => exact fun _ _ _ h => h
          case hw7 => kernel_rfl
          (try change wpAnyH _ _ _ _ _ _ _ (Act.put _ (some 53) _) _)
          try simp only [Act.put, List.setIfInBounds_toArray, List.set_cons_zero, List.set_cons_succ]
          refine' wpAnyH_take (i := 8) (oi := _) (v := undef) rfl ?hs8 ?hf8 ?hr8 ?hQ8 (Or.inr ⟨?hw8, rfl⟩) hHeld ?rest8
          case hs8 => kernel_rfl
          case hf8 => kernel_rfl
          case hr8 => kernel_rfl
          case hQ8 => exact fun _ _ _ h => h
          case hw8 => kernel_rfl
          (try change wpAnyH _ _ _ _ _ _ _ (Act.put _ (some 54) _) _)
          try simp only [Act.put, List.setIfInBounds_toArray, List.set_cons_zero, List.set_cons_succ]
          refine' wpAnyH_take (i := 9) (oi := _) (v := ?v9) rfl ?hs9 ?hf9 ?hr9 ?hQ9 (Or.inl ⟨?hw9, ?hy9⟩) hHeld ?rest9
          case hs9 => kernel_rfl
          case hf9 => kernel_rfl
          case hr9 => kernel_rfl
          case hQ9 => exact fun _ _ _ h => h
          case hw9 => kernel_rfl
          case hy9 => (intro w' hw'; go_simp; try with_reducible rfl)
          (try change wpAnyH _ _ _ _ _ _ _ (Act.put _ (some 55) _) _)
          try simp only [Act.put, List.setIfInBounds_toArray, List.set_cons_zero, List.set_cons_succ]
          refine' wpAnyH_take (i := 10) (oi := _) (v := ?v10) rfl ?hs10 ?hf10 ?hr10 ?hQ10 (Or.inl ⟨?hw10, ?hy10⟩) hHeld ?rest10
          case hs10 => kernel_rfl
          case hf10 => kernel_rfl
          case hr10 => kernel_rfl
          case hQ10 => exact fun _ _ _ h => h
          case hw10 => kernel_rfl
          case hy10 => (intro w' hw'; go_simp; try with_reducible rfl)
          (try change wpAnyH _ _ _ _ _ _ _ (Act.put _ (some 56) _) _)
          try simp only [Act.put, List.setIfInBounds_toArray, List.set_cons_zero, List.set_cons_succ]
          refine' wpAnyH_take (i := 11) (oi := _) (v := undef) rfl ?hs11 ?hf11 ?hr11 ?hQ11 (Or.inr ⟨?hw11, rfl⟩) hHeld ?rest11
          case hs11 => kernel_rfl
          case hf11 => kernel_rfl
          case hr11 => kernel_rfl
          case hQ11 => exact fun _ _ _ h => h
          case hw11 => kernel_rfl
          (try change wpAnyH _ _ _ _ _ _ _ (Act.put _ (some 57) _) _)
          try simp only [Act.put, List.setIfInBounds_toArray, List.set_cons_zero, List.set_cons_succ]
          refine' wpAnyH_take (i := 12) (oi := _) (v := undef) rfl ?hs12 ?hf12 ?hr12 ?hQ12 (Or.inr ⟨?hw12, rfl⟩) hHeld ?rest12
          case hs12 => kernel_rfl
          case hf12 => kernel_rfl
          case hr12 => kernel_rfl
          case hQ12 => exact fun _ _ _ h => h
          case hw12 => kernel_rfl
          (try change wpAnyH _ _ _ _ _ _ _ (Act.put _ (some 58) _) _)
          try simp only [Act.put, List.setIfInBounds_toArray, List.set_cons_zero, List.set_cons_succ]
          refine' wpAnyH_take (i := 13) (oi := _) (v := undef) rfl ?hs13 ?hf13 ?hr13 ?hQ13 (Or.inr ⟨?hw13, rfl⟩) hHeld ?rest13
          case hs13 => kernel_rfl
          case hf13 => kernel_rfl
          case hr13 => kernel_rfl
          case hQ13 => exact fun _ _ _ h => h
          case hw13 => kernel_rfl
          (try change wpAnyH _ _ _ _ _ _ _ (Act.put _ (some 59) _) _)
          try simp only [Act.put, List.setIfInBounds_toArray, List.set_cons_zero, List.set_cons_succ]
          refine' wpAnyH_take (i := 14) (oi := _) (v := undef) rfl ?hs14 ?hf14 ?hr14 ?hQ14 (Or.inr ⟨?hw14, rfl⟩) hHeld ?rest14
          case hs14 => kernel_rfl
          case hf14 => kernel_rfl
          case hr14 => kernel_rfl
          case hQ14 => exact fun _ _ _ h => h
          case hw14 => kernel_rfl
          (try change wpAnyH _ _ _ _ _ _ _ (Act.put _ (some 60) _) _)
          try simp only [Act.put, List.setIfInBounds_toArray, List.set_cons_zero, List.set_cons_succ]
          refine' wpAnyH_take (i := 15) (oi := _) (v := undef) rfl ?hs15 ?hf15 ?hr15 ?hQ15 (Or.inr ⟨?hw15, rfl⟩) hHeld ?rest15
          case hs15 => kernel_rfl
          case hf15 => kernel_rfl
          case hr15 => kernel_rfl
          case hQ15 => exact fun _ _ _ h => h
          case hw15 => kernel_rfl
          (try change wpAnyH _ _ _ _ _ _ _ (Act.put _ (some 61) _) _)
          try simp only [Act.put, List.setIfInBounds_toArray, List.set_cons_zero, List.set_cons_succ]
          refine' wpAnyH_take (i := 16) (oi := _) (v := undef) rfl ?hs16 ?hf16 ?hr16 ?hQ16 (Or.inr ⟨?hw16, rfl⟩) hHeld ?rest16
          case hs16 => kernel_rfl
          case hf16 => kernel_rfl
          case hr16 => kernel_rfl
          case hQ16 => exact fun _ _ _ h => h
          case hw16 => kernel_rfl
          (try change wpAnyH _ _ _ _ _ _ _ (Act.put _ (some 62) _) _)
          try simp only [Act.put, List.setIfInBounds_toArray, List.set_cons_zero, List.set_cons_succ]
          refine' wpAnyH_take (i := 17) (oi := _) (v := undef) rfl ?hs17 ?hf17 ?hr17 ?hQ17 (Or.inr ⟨?hw17, rfl⟩) hHeld ?rest17
          case hs17 => kernel_rfl
          case hf17 => kernel_rfl
          case hr17 => kernel_rfl
          case hQ17 => exact fun _ _ _ h => h
          case hw17 => kernel_rfl
          (try change wpAnyH _ _ _ _ _ _ _ (Act.put _ (some 63) _) _)
          try simp only [Act.put, List.setIfInBounds_toArray, List.set_cons_zero, List.set_cons_succ]
          refine' wpAnyH_take (i := 18) (oi := _) (v := undef) rfl ?hs18 ?hf18 ?hr18 ?hQ18 (Or.inr ⟨?hw18, rfl⟩) hHeld ?rest18
          case hs18 => kernel_rfl
          case hf18 => kernel_rfl
          case hr18 => kernel_rfl
          case hQ18 => exact fun _ _ _ h => h
          case hw18 => kernel_rfl
          (try change wpAnyH _ _ _ _ _ _ _ (Act.put _ (some 64) _) _)
          try simp only [Act.put, List.setIfInBounds_toArray, List.set_cons_zero, List.set_cons_succ]
          refine' wpAnyH_take (i := 19) (oi := _) (v := undef) rfl ?hs19 ?hf19 ?hr19 ?hQ19 (Or.inr ⟨?hw19, rfl⟩) hHeld ?rest19
          case hs19 => kernel_rfl
          case hf19 => kernel_rfl
          case hr19 => kernel_rfl
          case hQ19 => exact fun _ _ _ h => h
          case hw19 => kernel_rfl
          (try change wpAnyH _ _ _ _ _ _ _ (Act.put _ (some 65) _) _)
          try simp only [Act.put, List.setIfInBounds_toArray, List.set_cons_zero, List.set_cons_succ]
          refine' wpAnyH_take (i := 20) (oi := _) (v := undef) rfl ?hs20 ?hf20 ?hr20 ?hQ20 (Or.inr ⟨?hw20, rfl⟩) hHeld ?rest20
          case hs20 => kernel_rfl
          case hf20 => kernel_rfl
          case hr20 => kernel_rfl
          case hQ20 => exact fun _ _ _ h => h
          case hw20 => kernel_rfl
          (try change wpAnyH _ _ _ _ _ _ _ (Act.put _ (some 66) _) _)
          try simp only [Act.put, List.setIfInBounds_toArray, List.set_cons_zero, List.set_cons_succ]
          refine' wpAnyH_take (i := 21) (oi := _) (v := ?v21) rfl ?hs21 ?hf21 ?hr21 ?hQ21 (Or.inl ⟨?hw21, ?hy21⟩) hHeld ?rest21
          case hs21 => kernel_rfl
          case hf21 => kernel_rfl
          case hr21 => kernel_rfl
          case hQ21 => exact fun _ _ _ h => h
          case hw21 => kernel_rfl
          case hy21 => (intro w' hw'; go_simp; try with_reducible rfl)
          (try change wpAnyH _ _ _ _ _ _ _ (Act.put _ (some 67) _) _)
          try simp only [Act.put, List.setIfInBounds_toArray, List.set_cons_zero, List.set_cons_succ]
          refine wpAnyH_done ?hdone22 ?hq22 _
          case hdone22 => kernel_rfl
          go_wp2_with fail
          go_meet
          exact ⟨by rw [HRO.out]; first | rfl | simp, HW2.out _ hHeld⟩
        · cases bi
          · refine' wpAnyH_take (i := 0) (oi := _) (v := ?v23) rfl ?hs23 ?hf23 ?hr23 ?hQ23 (Or.inl ⟨?hw23, ?hy23⟩) hHeld ?rest23
            case hs23 => kernel_rfl
            case hf23 => kernel_rfl
            case hr23 => kernel_rfl
            case hQ23 => exact fun _ _ _ h => h
            case hw23 => kernel_rfl
            case hy23 => (intro w' hw'; have c0 := HB0.out _ hw'; have c3' := HB3'.out _ hw'; have c4' := HC4.out _ hw'; have c5' := HC3.out _ hw'; go_simp; try with_reducible rfl)
            (try change wpAnyH _ _ _ _ _ _ _ (Act.put _ (some 46) _) _)
            try simp only [Act.put, List.setIfInBounds_toArray, List.set_cons_zero, List.set_cons_succ]
            refine wpAnyH_ready (rs := [1]) (by kernel_rfl) (by simp) ?_
            refine AllReadyH.cons rfl (fun K hK => ?_) AllReadyH.nil
            go_simp
            go_at_call 61; refine (HIC.out _ hHeld).mono ?_; rintro e wb ⟨rfl, hba⟩; have hbe := below_step hHeld hba; clear hba
            (try go_wp2_with fail)
            refine hK.out _ _ hbe (fun hHeld => ?_)
            clear hK K
            try simp only [Act.put, List.setIfInBounds_toArray, List.set_cons_zero, List.set_cons_succ]
            refine' wpAnyH_take (i := 2) (oi := _) (v := ?v24) rfl ?hs24 ?hf24 ?hr24 ?hQ24 (Or.inl ⟨?hw24, ?hy24⟩) hHeld ?rest24
            case hs24 => kernel_rfl
            case hf24 => kernel_rfl
            case hr24 => kernel_rfl
            case hQ24 => exact fun _ _ _ h => h
            case hw24 => kernel_rfl
            case hy24 => (intro w' hw'; go_simp; try with_reducible rfl)
            (try change wpAnyH _ _ _ _ _ _ _ (Act.put _ (some 48) _) _)
            try simp only [Act.put, List.setIfInBounds_toArray, List.set_cons_zero, List.set_cons_succ]
            refine' wpAnyH_take (i := 3) (oi := _) (v := ?v25) rfl ?hs25 ?hf25 ?hr25 ?hQ25 (Or.inl ⟨?hw25, ?hy25⟩) hHeld ?rest25
            case hs25 => kernel_rfl
            case hf25 => kernel_rfl
            case hr25 => kernel_rfl
            case hQ25 => exact fun _ _ _ h => h
            case hw25 => kernel_rfl
            case hy25 => (intro w' hw'; go_simp; try with_reducible rfl)
            (try change wpAnyH _ _ _ _ _ _ _ (Act.put _ (some 49) _) _)
            try simp only [Act.put, List.setIfInBounds_toArray, List.set_cons_zero, List.set_cons_succ]
            refine' wpAnyH_take (i := 4) (oi := _) (v := ?v26) rfl ?hs26 ?hf26 ?hr26 ?hQ26 (Or.inl ⟨?hw26, ?hy26⟩) hHeld ?rest26
            case hs26 => kernel_rfl
            case hf26 => kernel_rfl
            case hr26 => kernel_rfl
            case hQ26 => exact fun _ _ _ h => h
            case hw26 => kernel_rfl
            case hy26 => (intro w' hw'; have c0 := HB0.out _ hw'; have c3' := HB3'.out _ hw'; have c4' := HC4.out _ hw'; have c5' := HC3.out _ hw'; go_simp; try with_reducible rfl)
            (try change wpAnyH _ _ _ _ _ _ _ (Act.put _ (some 50) _) _)
            try simp only [Act.put, List.setIfInBounds_toArray, List.set_cons_zero, List.set_cons_succ]
            refine' wpAnyH_take (i := 6) (oi := _) (v := ?v27) rfl ?hs27 ?hf27 ?hr27 ?hQ27 (Or.inl ⟨?hw27, ?hy27⟩) hHeld ?rest27
            case hs27 => kernel_rfl
            case hf27 => kernel_rfl
            case hr27 => kernel_rfl
            case hQ27 => exact fun _ _ _ h => h
            case hw27 => kernel_rfl
            case hy27 => (intro w' hw'; go_simp; try with_reducible rfl)
            (try change wpAnyH _ _ _ _ _ _ _ (Act.put _ (some 52) _) _)
            try simp only [Act.put, List.setIfInBounds_toArray, List.set_cons_zero, List.set_cons_succ]
            refine' wpAnyH_take (i := 7) (oi := _) (v := ?v28) rfl ?hs28 ?hf28 ?hr28 ?hQ28 (Or.inl ⟨?hw28, ?hy28⟩) hHeld ?rest28
            case hs28 => kernel_rfl
            case hf28 => kernel_rfl
            case hr28 => kernel_rfl
            case hQ28 => exact fun _ _ _ h => h
            case hw28 => kernel_rfl
            case hy28 => (intro w' hw'; have c0 := HB0.out _ hw'; have c3' := HB3'.out _ hw'; have c4' := HC4.out _ hw'; have c5' := HC3.out _ hw'; go_simp; try with_reducible rfl)
            (try change wpAnyH _ _ _ _ _ _ _ (Act.put _ (some 53) _) _)
            try simp only [Act.put, List.setIfInBounds_toArray, List.set_cons_zero, List.set_cons_succ]
            refine wpAnyH_ready (rs := [5]) (by kernel_rfl) (by simp) ?_
            refine AllReadyH.cons rfl (fun K hK => ?_) AllReadyH.nil
            go_simp
            go_at_call 62; refine (HIN.out _ hHeld).mono ?_; rintro e wa ⟨rfl, hba⟩; have hbe := below_step hHeld hba; clear hba
            (try go_wp2_with fail)
            refine hK.out _ _ hbe (fun hHeld => ?_)
            clear hK K
            try simp only [Act.put, List.setIfInBounds_toArray, List.set_cons_zero, List.set_cons_succ]
            refine' wpAnyH_take (i := 8) (oi := _) (v := ?v29) rfl ?hs29 ?hf29 ?hr29 ?hQ29 (Or.inl ⟨?hw29, ?hy29⟩) hHeld ?rest29
            case hs29 => kernel_rfl
            case hf29 => kernel_rfl
            case hr29 => kernel_rfl
            case hQ29 => exact fun _ _ _ h => h
            case hw29 => kernel_rfl
            case hy29 => (intro w' hw'; go_simp; try with_reducible rfl)
            (try change wpAnyH _ _ _ _ _ _ _ (Act.put _ (some 54) _) _)
            try simp only [Act.put, List.setIfInBounds_toArray, List.set_cons_zero, List.set_cons_succ]
            refine' wpAnyH_take (i := 9) (oi := _) (v := ?v30) rfl ?hs30 ?hf30 ?hr30 ?hQ30 (Or.inl ⟨?hw30, ?hy30⟩) hHeld ?rest30
            case hs30 => kernel_rfl
            case hf30 => kernel_rfl
            case hr30 => kernel_rfl
            case hQ30 => exact fun _ _ _ h => h
            case hw30 => kernel_rfl
            case hy30 => (intro w' hw'; go_simp; try with_reducible rfl)
            (try change wpAnyH _ _ _ _ _ _ _ (Act.put _ (some 55) _) _)
            try simp only [Act.put, List.setIfInBounds_toArray, List.set_cons_zero, List.set_cons_succ]
            refine' wpAnyH_take (i := 10) (oi := _) (v := ?v31) rfl ?hs31 ?hf31 ?hr31 ?hQ31 (Or.inl ⟨?hw31, ?hy31⟩) hHeld ?rest31
            case hs31 => kernel_rfl
            case hf31 => kernel_rfl
            case hr31 => kernel_rfl
            case hQ31 => exact fun _ _ _ h => h
            case hw31 => kernel_rfl
            case hy31 => (intro w' hw'; go_simp; try with_reducible rfl)
            (try change wpAnyH _ _ _ _ _ _ _ (Act.put _ (some 56) _) _)
            try simp only [Act.put, List.setIfInBounds_toArray, List.set_cons_zero, List.set_cons_succ]
            refine' wpAnyH_take (i := 11) (oi := _) (v := undef) rfl ?hs32 ?hf32 ?hr32 ?hQ32 (Or.inr ⟨?hw32, rfl⟩) hHeld ?rest32
            case hs32 => kernel_rfl
            case hf32 => kernel_rfl
            case hr32 => kernel_rfl
            case hQ32 => exact fun _ _ _ h => h
            case hw32 => kernel_rfl
            (try change wpAnyH _ _ _ _ _ _ _ (Act.put _ (some 57) _) _)
            try simp only [Act.put, List.setIfInBounds_toArray, List.set_cons_zero, List.set_cons_succ]
            refine' wpAnyH_take (i := 12) (oi := _) (v := undef) rfl ?hs33 ?hf33 ?hr33 ?hQ33 (Or.inr ⟨?hw33, rfl⟩) hHeld ?rest33
            case hs33 => kernel_rfl
            case hf33 => kernel_rfl
            case hr33 => kernel_rfl
            case hQ33 => exact fun _ _ _ h => h
            case hw33 => kernel_rfl
            (try change wpAnyH _ _ _ _ _ _ _ (Act.put _ (some 58) _) _)
            try simp only [Act.put, List.setIfInBounds_toArray, List.set_cons_zero, List.set_cons_succ]
            refine' wpAnyH_take (i := 13) (oi := _) (v := undef) rfl ?hs34 ?hf34 ?hr34 ?hQ34 (Or.inr ⟨?hw34, rfl⟩) hHeld ?rest34
            case hs34 => kernel_rfl
            case hf34 => kernel_rfl
            case hr34 => kernel_rfl
            case hQ34 => exact fun _ _ _ h => h
            case hw34 => kernel_rfl
            (try change wpAnyH _ _ _ _ _ _ _ (Act.put _ (some 59) _) _)
            try simp only [Act.put, List.setIfInBounds_toArray, List.set_cons_zero, List.set_cons_succ]
            refine' wpAnyH_take (i := 14) (oi := _) (v := undef) rfl ?hs35 ?hf35 ?hr35 ?hQ35 (Or.inr ⟨?hw35, rfl⟩) hHeld ?rest35
            case hs35 => kernel_rfl
            case hf35 => kernel_rfl
            case hr35 => kernel_rfl
            case hQ35 => exact fun _ _ _ h => h
            case hw35 => kernel_rfl
            (try change wpAnyH _ _ _ _ _ _ _ (Act.put _ (some 60) _) _)
            try simp only [Act.put, List.setIfInBounds_toArray, List.set_cons_zero, List.set_cons_succ]
            refine' wpAnyH_take (i := 15) (oi := _) (v := undef) rfl ?hs36 ?hf36 ?hr36 ?hQ36 (Or.inr ⟨?hw36, rfl⟩) hHeld ?rest36
            case hs36 => kernel_rfl
            case hf36 => kernel_rfl
            case hr36 => kernel_rfl
            case hQ36 => exact fun _ _ _ h => h
            case hw36 => kernel_rfl
            (try change wpAnyH _ _ _ _ _ _ _ (Act.put _ (some 61) _) _)
            try simp only [Act.put, List.setIfInBounds_toArray, List.set_cons_zero, List.set_cons_succ]
            refine' wpAnyH_take (i := 16) (oi := _) (v := undef) rfl ?hs37 ?hf37 ?hr37 ?hQ37 (Or.inr ⟨?hw37, rfl⟩) hHeld ?rest37
            case hs37 => kernel_rfl
            case hf37 => kernel_rfl
            case hr37 => kernel_rfl
            case hQ37 => exact fun _ _ _ h => h
            case hw37 => kernel_rfl
            (try change wpAnyH _ _ _ _ _ _ _ (Act.put _ (some 62) _) _)
            try simp only [Act.put, List.setIfInBounds_toArray, List.set_cons_zero, List.set_cons_succ]
            refine' wpAnyH_take (i := 17) (oi := _) (v := undef) rfl ?hs38 ?hf38 ?hr38 ?hQ38 (Or.inr ⟨?hw38, rfl⟩) hHeld ?rest38
            case hs38 => kernel_rfl
            case hf38 => kernel_rfl
            case hr38 => kernel_rfl
            case hQ38 => exact fun _ _ _ h => h
            case hw38 => kernel_rfl
            (try change wpAnyH _ _ _ _ _ _ _ (Act.put _ (some 63) _) _)
            try simp only [Act.put, List.setIfInBounds_toArray, List.set_cons_zero, List.set_cons_succ]
            refine' wpAnyH_take (i := 18) (oi := _) (v := undef) rfl ?hs39 ?hf39 ?hr39 ?hQ39 (Or.inr ⟨?hw39, rfl⟩) hHeld ?rest39
            case hs39 => kernel_rfl
            case hf39 => kernel_rfl
            case hr39 => kernel_rfl
            case hQ39 => exact fun _ _ _ h => h
            case hw39 => kernel_rfl
            (try change wpAnyH _ _ _ _ _ _ _ (Act.put _ (some 64) _) _)
            try simp only [Act.put, List.setIfInBounds_toArray, List.set_cons_zero, List.set_cons_succ]
            refine' wpAnyH_take (i := 19) (oi := _) (v := undef) rfl ?hs40 ?hf40 ?hr40 ?hQ40 (Or.inr ⟨?hw40, rfl⟩) hHeld ?rest40
            case hs40 => kernel_rfl
            case hf40 => kernel_rfl
            case hr40 => kernel_rfl
            case hQ40 => exact fun _ _ _ h => h
            case hw40 => kernel_rfl
            (try change wpAnyH _ _ _ _ _ _ _ (Act.put _ (some 65) _) _)
            try simp only [Act.put, List.setIfInBounds_toArray, List.set_cons_zero, List.set_cons_succ]
            refine' wpAnyH_take (i := 20) (oi := _) (v := undef) rfl ?hs41 ?hf41 ?hr41 ?hQ41 (Or.inr ⟨?hw41, rfl⟩) hHeld ?rest41
            case hs41 => kernel_rfl
            case hf41 => kernel_rfl
            case hr41 => kernel_rfl
            case hQ41 => exact fun _ _ _ h => h
            case hw41 => kernel_rfl
            (try change wpAnyH _ _ _ _ _ _ _ (Act.put _ (some 66) _) _)
            try simp only [Act.put, List.setIfInBounds_toArray, List.set_cons_zero, List.set_cons_succ]
            refine' wpAnyH_take (i := 21) (oi := _) (v := ?v42) rfl ?hs42 ?hf42 ?hr42 ?hQ42 (Or.inl ⟨?hw42, ?hy42⟩) hHeld ?rest42
            case hs42 => kernel_rfl
            case hf42 => kernel_rfl
            case hr42 => kernel_rfl
            case hQ42 => exact fun _ _ _ h => h
            case hw42 => kernel_rfl
            case hy42 => (intro w' hw'; go_simp; try with_reducible rfl)
            (try change wpAnyH _ _ _ _ _ _ _ (Act.put _ (some 67) _) _)
            try simp only [Act.put, List.setIfInBounds_toArray, List.set_cons_zero, List.set_cons_succ]
            refine wpAnyH_done ?hdone43 ?hq43 _
            case hdone43 => kernel_rfl
            go_wp2_with fail
            go_meet
            exact ⟨by rw [HRO.out]; first | rfl | simp, HW2.out _ hHeld⟩
          · refine' wpAnyH_take (i := 0) (oi := _) (v := ?v44) rfl ?hs44 ?hf44 ?hr44 ?hQ44 (Or.inl ⟨?hw44, ?hy44⟩) hHeld ?rest44
            case hs44 => kernel_rfl
            case hf44 => kernel_rfl
            case hr44 => kernel_rfl
            case hQ44 => exact fun _ _ _ h => h
            case hw44 => kernel_rfl
            case hy44 => (intro w' hw'; have c0 := HB0.out _ hw'; have c3' := HB3'.out _ hw'; have c4' := HC4.out _ hw'; have c5' := HC3.out _ hw'; go_simp; try with_reducible rfl)
            (try change wpAnyH _ _ _ _ _ _ _ (Act.put _ (some 46) _) _)
            try simp only [Act.put, List.setIfInBounds_toArray, List.set_cons_zero, List.set_cons_succ]
            refine wpAnyH_ready (rs := [1]) (by kernel_rfl) (by simp) ?_
            refine AllReadyH.cons rfl (fun K hK => ?_) AllReadyH.nil
            go_simp
            go_at_call 61; refine (HIC.out _ hHeld).mono ?_; rintro e wb ⟨rfl, hba⟩; have hbe := below_step hHeld hba; clear hba
            (try go_wp2_with fail)
            refine hK.out _ _ hbe (fun hHeld => ?_)
            clear hK K
            try simp only [Act.put, List.setIfInBounds_toArray, List.set_cons_zero, List.set_cons_succ]
            refine' wpAnyH_take (i := 2) (oi := _) (v := ?v45) rfl ?hs45 ?hf45 ?hr45 ?hQ45 (Or.inl ⟨?hw45, ?hy45⟩) hHeld ?rest45
            case hs45 => kernel_rfl
            case hf45 => kernel_rfl
            case hr45 => kernel_rfl
            case hQ45 => exact fun _ _ _ h => h
            case hw45 => kernel_rfl
            case hy45 => (intro w' hw'; go_simp; try with_reducible rfl)
            (try change wpAnyH _ _ _ _ _ _ _ (Act.put _ (some 48) _) _)
            try simp only [Act.put, List.setIfInBounds_toArray, List.set_cons_zero, List.set_cons_succ]
            refine' wpAnyH_take (i := 3) (oi := _) (v := ?v46) rfl ?hs46 ?hf46 ?hr46 ?hQ46 (Or.inl ⟨?hw46, ?hy46⟩) hHeld ?rest46
            case hs46 => kernel_rfl
            case hf46 => kernel_rfl
            case hr46 => kernel_rfl
            case hQ46 => exact fun _ _ _ h => h
            case hw46 => kernel_rfl
            case hy46 => (intro w' hw'; go_simp; try with_reducible rfl)
            (try change wpAnyH _ _ _ _ _ _ _ (Act.put _ (some 49) _) _)
            try simp only [Act.put, List.setIfInBounds_toArray, List.set_cons_zero, List.set_cons_succ]
            refine' wpAnyH_take (i := 4) (oi := _) (v := ?v47) rfl ?hs47 ?hf47 ?hr47 ?hQ47 (Or.inl ⟨?hw47, ?hy47⟩) hHeld ?rest47
            case hs47 => kernel_rfl
            case hf47 => kernel_rfl
            case hr47 => kernel_rfl
            case hQ47 => exact fun _ _ _ h => h
            case hw47 => kernel_rfl
            case hy47 => (intro w' hw'; have c0 := HB0.out _ hw'; have c3' := HB3'.out _ hw'; have c4' := HC4.out _ hw'; have c5' := HC3.out _ hw'; go_simp; try with_reducible rfl)
            (try change wpAnyH _ _ _ _ _ _ _ (Act.put _ (some 50) _) _)
            try simp only [Act.put, List.setIfInBounds_toArray, List.set_cons_zero, List.set_cons_succ]
            refine' wpAnyH_take (i := 6) (oi := _) (v := ?v48) rfl ?hs48 ?hf48 ?hr48 ?hQ48 (Or.inl ⟨?hw48, ?hy48⟩) hHeld ?rest48
            case hs48 => kernel_rfl
            case hf48 => kernel_rfl
            case hr48 => kernel_rfl
            case hQ48 => exact fun _ _ _ h => h
            case hw48 => kernel_rfl
            case hy48 => (intro w' hw'; go_simp; try with_reducible rfl)
            (try change wpAnyH _ _ _ _ _ _ _ (Act.put _ (some 52) _) _)
            try simp only [Act.put, List.setIfInBounds_toArray, List.set_cons_zero, List.set_cons_succ]
            refine' wpAnyH_take (i := 7) (oi := _) (v := ?v49) rfl ?hs49 ?hf49 ?hr49 ?hQ49 (Or.inl ⟨?hw49, ?hy49⟩) hHeld ?rest49
            case hs49 => kernel_rfl
            case hf49 => kernel_rfl
            case hr49 => kernel_rfl
            case hQ49 => exact fun _ _ _ h => h
            case hw49 => kernel_rfl
            case hy49 => (intro w' hw'; have c0 := HB0.out _ hw'; have c3' := HB3'.out _ hw'; have c4' := HC4.out _ hw'; have c5' := HC3.out _ hw'; go_simp; try with_reducible rfl)
            (try change wpAnyH _ _ _ _ _ _ _ (Act.put _ (some 53) _) _)
            try simp only [Act.put, List.setIfInBounds_toArray, List.set_cons_zero, List.set_cons_succ]
            refine wpAnyH_ready (rs := [5]) (by kernel_rfl) (by simp) ?_
            refine AllReadyH.cons rfl (fun K hK => ?_) AllReadyH.nil
            go_simp
            go_at_call 62; refine (HIN.out _ hHeld).mono ?_; rintro e wa ⟨rfl, hba⟩; have hbe := below_step hHeld hba; clear hba
            (try go_wp2_with fail)
            refine hK.out _ _ hbe (fun hHeld => ?_)
            clear hK K
            try simp only [Act.put, List.setIfInBounds_toArray, List.set_cons_zero, List.set_cons_succ]
            refine' wpAnyH_take (i := 8) (oi := _) (v := ?v50) rfl ?hs50 ?hf50 ?hr50 ?hQ50 (Or.inl ⟨?hw50, ?hy50⟩) hHeld ?rest50
            case hs50 => kernel_rfl
            case hf50 => kernel_rfl
            case hr50 => kernel_rfl
            case hQ50 => exact fun _ _ _ h => h
            case hw50 => kernel_rfl
            case hy50 => (intro w' hw'; go_simp; try with_reducible rfl)
            (try change wpAnyH _ _ _ _ _ _ _ (Act.put _ (some 54) _) _)
            try simp only [Act.put, List.setIfInBounds_toArray, List.set_cons_zero, List.set_cons_succ]
            refine' wpAnyH_take (i := 9) (oi := _) (v := ?v51) rfl ?hs51 ?hf51 ?hr51 ?hQ51 (Or.inl ⟨?hw51, ?hy51⟩) hHeld ?rest51
            case hs51 => kernel_rfl
            case hf51 => kernel_rfl
            case hr51 => kernel_rfl
            case hQ51 => exact fun _ _ _ h => h
            case hw51 => kernel_rfl
            case hy51 => (intro w' hw'; go_simp; try with_reducible rfl)
            (try change wpAnyH _ _ _ _ _ _ _ (Act.put _ (some 55) _) _)
            try simp only [Act.put, List.setIfInBounds_toArray, List.set_cons_zero, List.set_cons_succ]
            refine' wpAnyH_take (i := 10) (oi := _) (v := ?v52) rfl ?hs52 ?hf52 ?hr52 ?hQ52 (Or.inl ⟨?hw52, ?hy52⟩) hHeld ?rest52
            case hs52 => kernel_rfl
            case hf52 => kernel_rfl
            case hr52 => kernel_rfl
            case hQ52 => exact fun _ _ _ h => h
            case hw52 => kernel_rfl
            case hy52 => (intro w' hw'; go_simp; try with_reducible rfl)
            (try change wpAnyH _ _ _ _ _ _ _ (Act.put _ (some 56) _) _)
            try simp only [Act.put, List.setIfInBounds_toArray, List.set_cons_zero, List.set_cons_succ]
            refine' wpAnyH_take (i := 11) (oi := _) (v := ?v53) rfl ?hs53 ?hf53 ?hr53 ?hQ53 (Or.inl ⟨?hw53, ?hy53⟩) hHeld ?rest53
            case hs53 => kernel_rfl
            case hf53 => kernel_rfl
            case hr53 => kernel_rfl
            case hQ53 => exact fun _ _ _ h => h
            case hw53 => kernel_rfl
            case hy53 => (intro w' hw'; go_simp; try with_reducible rfl)
            (try change wpAnyH _ _ _ _ _ _ _ (Act.put _ (some 57) _) _)
            try simp only [Act.put, List.setIfInBounds_toArray, List.set_cons_zero, List.set_cons_succ]
            refine' wpAnyH_take (i := 12) (oi := _) (v := ?v54) rfl ?hs54 ?hf54 ?hr54 ?hQ54 (Or.inl ⟨?hw54, ?hy54⟩) hHeld ?rest54
            case hs54 => kernel_rfl
            case hf54 => kernel_rfl
            case hr54 => kernel_rfl
            case hQ54 => exact fun _ _ _ h => h
            case hw54 => kernel_rfl
            case hy54 => (intro w' hw'; have c0 := HB0.out _ hw'; have c3' := HB3'.out _ hw'; have c4' := HC4.out _ hw'; have c5' := HC3.out _ hw'; go_simp; try with_reducible rfl)
            (try change wpAnyH _ _ _ _ _ _ _ (Act.put _ (some 58) _) _)
            try simp only [Act.put, List.setIfInBounds_toArray, List.set_cons_zero, List.set_cons_succ]
            refine' wpAnyH_take (i := 13) (oi := _) (v := ?v55) rfl ?hs55 ?hf55 ?hr55 ?hQ55 (Or.inl ⟨?hw55, ?hy55⟩) hHeld ?rest55
            case hs55 => kernel_rfl
            case hf55 => kernel_rfl
            case hr55 => kernel_rfl
            case hQ55 => exact fun _ _ _ h => h
            case hw55 => kernel_rfl
            case hy55 => (intro w' hw'; go_simp; try with_reducible rfl)
            (try change wpAnyH _ _ _ _ _ _ _ (Act.put _ (some 59) _) _)
            try simp only [Act.put, List.setIfInBounds_toArray, List.set_cons_zero, List.set_cons_succ]
            refine' wpAnyH_take (i := 14) (oi := _) (v := ?v56) rfl ?hs56 ?hf56 ?hr56 ?hQ56 (Or.inl ⟨?hw56, ?hy56⟩) hHeld ?rest56
            case hs56 => kernel_rfl
            case hf56 => kernel_rfl
            case hr56 => kernel_rfl
            case hQ56 => exact fun _ _ _ h => h
            case hw56 => kernel_rfl
            case hy56 => (intro w' hw'; go_simp; try with_reducible rfl)
            (try change wpAnyH _ _ _ _ _ _ _ (Act.put _ (some 60) _) _)
            try simp only [Act.put, List.setIfInBounds_toArray, List.set_cons_zero, List.set_cons_succ]
            refine' wpAnyH_take (i := 15) (oi := _) (v := ?v57) rfl ?hs57 ?hf57 ?hr57 ?hQ57 (Or.inl ⟨?hw57, ?hy57⟩) hHeld ?rest57
            case hs57 => kernel_rfl
            case hf57 => kernel_rfl
            case hr57 => kernel_rfl
            case hQ57 => exact fun _ _ _ h => h
            case hw57 => kernel_rfl
            case hy57 => (intro w' hw'; have c0 := HB0.out _ hw'; have c3' := HB3'.out _ hw'; have c4' := HC4.out _ hw'; have c5' := HC3.out _ hw'; go_simp; try with_reducible rfl)
            (try change wpAnyH _ _ _ _ _ _ _ (Act.put _ (some 61) _) _)
            try simp only [Act.put, List.setIfInBounds_toArray, List.set_cons_zero, List.set_cons_succ]
            refine' wpAnyH_take (i := 16) (oi := _) (v := ?v58) rfl ?hs58 ?hf58 ?hr58 ?hQ58 (Or.inl ⟨?hw58, ?hy58⟩) hHeld ?rest58
            case hs58 => kernel_rfl
            case hf58 => kernel_rfl
            case hr58 => kernel_rfl
            case hQ58 => exact fun _ _ _ h => h
            case hw58 => kernel_rfl
            case hy58 => (intro w' hw'; go_simp; try with_reducible rfl)
            (try change wpAnyH _ _ _ _ _ _ _ (Act.put _ (some 62) _) _)
            try simp only [Act.put, List.setIfInBounds_toArray, List.set_cons_zero, List.set_cons_succ]
            refine' wpAnyH_take (i := 17) (oi := _) (v := ?v59) rfl ?hs59 ?hf59 ?hr59 ?hQ59 (Or.inl ⟨?hw59, ?hy59⟩) hHeld ?rest59
            case hs59 => kernel_rfl
            case hf59 => kernel_rfl
            case hr59 => kernel_rfl
            case hQ59 => exact fun _ _ _ h => h
            case hw59 => kernel_rfl
            case hy59 => (intro w' hw'; have c0 := HB0.out _ hw'; have c3' := HB3'.out _ hw'; have c4' := HC4.out _ hw'; have c5' := HC3.out _ hw'; go_simp; try with_reducible rfl)
            (try change wpAnyH _ _ _ _ _ _ _ (Act.put _ (some 63) _) _)
            try simp only [Act.put, List.setIfInBounds_toArray, List.set_cons_zero, List.set_cons_succ]
            refine wpAnyH_ready (rs := [18]) (by kernel_rfl) (by simp) ?_
            refine AllReadyH.cons rfl (fun K hK => ?_) AllReadyH.nil
            go_simp
            go_at_call 44; refine (HPF.out _ hHeld).mono ?_; rintro e wc ⟨uc, rfl, hrc, hba⟩; obtain ⟨Ac, cc, rfl⟩ := hrc.form; have HRC := Lib.hid hrc.weak; have hbe := below_step hHeld hba; clear hba hrc
            (try go_wp2_with fail)
            refine hK.out _ _ hbe (fun hHeld => ?_)
            clear hK K
            try simp only [Act.put, List.setIfInBounds_toArray, List.set_cons_zero, List.set_cons_succ]
            refine wpAnyH_ready (rs := [19]) (by kernel_rfl) (by simp) ?_
            refine AllReadyH.cons rfl (fun K hK => ?_) AllReadyH.nil
            go_simp
            go_at_call 63; refine (HSE.out _ _ _ hHeld HRC.out).mono ?_; rintro e wd ⟨rfl, hba⟩; have hbe := below_step hHeld hba; clear hba
            (try go_wp2_with fail)
            refine hK.out _ _ hbe (fun hHeld => ?_)
            clear hK K
            try simp only [Act.put, List.setIfInBounds_toArray, List.set_cons_zero, List.set_cons_succ]
            refine' wpAnyH_take (i := 20) (oi := _) (v := ?v60) rfl ?hs60 ?hf60 ?hr60 ?hQ60 (Or.inl ⟨?hw60, ?hy60⟩) hHeld ?rest60
            case hs60 => kernel_rfl
            case hf60 => kernel_rfl
            case hr60 => kernel_rfl
            case hQ60 => exact fun _ _ _ h => h
            case hw60 => kernel_rfl
            case hy60 => (intro w' hw'; go_simp; try with_reducible rfl)
            (try change wpAnyH _ _ _ _ _ _ _ (Act.put _ (some 66) _) _)
            try simp only [Act.put, List.setIfInBounds_toArray, List.set_cons_zero, List.set_cons_succ]
            refine' wpAnyH_take (i := 21) (oi := _) (v := ?v61) rfl ?hs61 ?hf61 ?hr61 ?hQ61 (Or.inl ⟨?hw61, ?hy61⟩) hHeld ?rest61
            case hs61 => kernel_rfl
            case hf61 => kernel_rfl
            case hr61 => kernel_rfl
            case hQ61 => exact fun _ _ _ h => h
            case hw61 => kernel_rfl
            case hy61 => (intro w' hw'; go_simp; try with_reducible rfl)
            (try change wpAnyH _ _ _ _ _ _ _ (Act.put _ (some 67) _) _)
            try simp only [Act.put, List.setIfInBounds_toArray, List.set_cons_zero, List.set_cons_succ]
            refine wpAnyH_done ?hdone62 ?hq62 _
            case hdone62 => kernel_rfl
            go_wp2_with fail
            go_meet
            exact ⟨by rw [HRO.out]; first | rfl | simp, HW2.out _ hHeld⟩
      case rest =>
        obtain ⟨rfl, hbw⟩ := hcut
        have HBR := Lib.hid hbw
        clear hbw
        cases hrk : rowAt x k with
        | false =>
          have HN := Lib.hid (HBD2.out hrk)
          go_wp2_with fail
          go_ret
          exact ⟨ret_bool HN.out.symm, below_step HBW.out HBR.out⟩
        | true =>
          have HAL : Hid (∀ j, j < k + 1 → rowAt x j = true) := fun j hj => by
            by_cases e : j = k
            · subst e; exact hrk
            · exact hall.out j (by omega)
          go_wp2
          go_roundw
          case rel => exact ⟨k + 1, by omega, by go_num, HAL.out, below_step HB.out HBR.out⟩
          case measure => simp [intOf]; omega
    · obtain rfl : k = x.Rows.length := by omega
      have HN := Lib.hid (HGD.out HHT.out hall.out)
      go_wp2
      go_ret
      exact ⟨ret_bool HN.out.symm, HBW.out⟩
end Go.Proofs.YtcgmlhlnkbjfnaaGreatDoor

/- The program's rowsOf: what it answers. -/
namespace Go.Proofs.YtcgmlhlnkbjfnaaGreatDoor
set_option maxRecDepth 100000
open Go.RowKit Go.Sort M
set_option linter.unusedVariables false
set_option linter.unusedSimpArgs false

theorem Tryz.infoTMk : (Tryz.prog.info? 69).map (fun i => (i.zero, i.size, i.bytes)) = some (some (.agg #[.slice none 0 0, .slice none 0 0]), 2, 48) := by kernel_rfl
theorem rmk2 : rMk.size = 2 := rfl
theorem World.setCell_size11 (w : World) (a : Addr) (v : Value) : (w.setCell a v).heap.size = w.heap.size := by simp [World.setCell]
set_option maxHeartbeats 16000000 in
theorem implRows_any (x : DTableau) (A1 : Option Addr) (c1 : Nat) (A2 : Option Addr) (c2 : Nat) (A3 : Option Addr) (c3 : Nat) (F1 F2 F3 : Addr → Prop) (w : World) (hm : rTableau.sz x ≤ 1048576) (hv : TabRd false w (.slice A1 x.Names.length c1) (.slice A2 x.Rows.length c2) (.slice A3 x.Marks.length c3) x F1 F2 F3) (hT : FeatTab w) :
    Calls Tryz.prog 66 #[.agg #[.string x.Input, .slice A1 x.Names.length c1, .slice A2 x.Rows.length c2, .slice A3 x.Marks.length c3]] w (MkPost x w) := by
  have HV := Lib.hid hv.tight
  have HIT : Hid (∀ W, Below w.heap.size w W → Calls Tryz.prog 21 #[.agg #[.string x.Input, .slice A1 x.Names.length c1, .slice A2 x.Rows.length c2, .slice A3 x.Marks.length c3]] W fun e w' => e = .returned (.bool (isTab x)) ∧ Below W.heap.size W w') := fun W hW => implTab_any x A1 c1 A2 c2 A3 c3 F1 F2 F3 W hm (hv.kept hW) (feat_below hT hW)
  have HP : Hid (∀ u G w', RowRd rMk false w' u (rowsL x) G → Below w.heap.size w w' → MkPost x w (.returned u) w') := fun u G w' h1 h2 => ⟨u, G, rfl, h1, h2⟩
  have HX2 : Hid (∀ k, k < x.Rows.length → ∃ y, x.Rows[k]? = some y) := fun k hk => ⟨_, List.getElem?_eq_getElem hk⟩
  have HX3 : Hid (∀ k, k < x.Marks.length → ∃ y, x.Marks[k]? = some y) := fun k hk => ⟨_, List.getElem?_eq_getElem hk⟩
  have HLT : Hid (∀ b, isTab x = b → b = true → x.Marks.length = x.Rows.length ∧ x.Rows.length ≤ 250 ∧ (rowsL x).length = x.Rows.length) := fun b h1 h2 => by
    have h3 := headT_parts (headT_of (h1.trans h2))
    exact ⟨h3.2.2.2.2, h3.2.2.2.1, rowsL_len (h1.trans h2)⟩
  have HNO : Hid (∀ b, isTab x = b → b = false → rowsL x = []) := fun b h1 h2 => rowsL_no (h1.trans h2)
  have HAT : Hid (∀ b, isTab x = b → b = true → ∀ (k : Nat) (c : DCandidate) (m : List Int), x.Rows[k]? = some c → x.Marks[k]? = some m → (rowsL x)[k]? = some (c, m)) := fun b h1 h2 k c m h3 h4 => rowsL_at (h1.trans h2) h3 h4
  clear hv hm hT
  have HA : Hid (∀ o, Below w.heap.size w (w.alloc o)) := fun o => (Below.refl _ _).alloc (Nat.le_refl _) _
  have HA1 : Hid (InC (w.alloc (.cells #[.string x.Input, .slice A1 x.Names.length c1, .slice A2 x.Rows.length c2, .slice A3 x.Marks.length c3] 27)) w.heap.size #[.string x.Input, .slice A1 x.Names.length c1, .slice A2 x.Rows.length c2, .slice A3 x.Marks.length c3] 27) := heap_alloc_new _ _
  obtain ⟨i0, hi, hz0, hz1, hz2⟩ := info_parts Tryz.infoTMk
  go_enter Tryz.func66, Tryz.ntmps66
  go_wp2_with fail
  refine (HIT.out _ (HA.out _)).mono ?_
  rintro e w1 ⟨rfl, hb⟩
  have HB1 : Hid (Below w.heap.size w w1) := below_step (HA.out _) hb
  have HX1 := Lib.hid (HA1.out.kept hb)
  have b2 := HX1.out.cell 2 rfl
  clear hb
  have HLT2 := Lib.hid (HLT.out _ rfl)
  have HNO2 := Lib.hid (HNO.out _ rfl)
  have HAT2 := Lib.hid (HAT.out _ rfl)
  clear HLT HNO HAT HIT
  generalize isTab x = t at *
  cases t with
  | false =>
    have HN := Lib.hid (HNO2.out rfl)
    go_wp2_with fail
    go_ret
    exact HP.out _ (fun _ => False) _ (by rw [HN.out]; exact RowRd.nil _ _ _) HB1.out
  | true =>
  obtain ⟨hml, hr2, hrl⟩ := HLT2.out rfl
  have HAT3 := Lib.hid (HAT2.out rfl)
  have HRL := Lib.hid hrl
  clear HLT2 HNO2 HAT2 hrl
  have H0 := Lib.hid (cpTo_zero zMk (rowsL x))
  have HCA := Lib.hid (cpTo_all zMk (rowsL x))
  have HCL : Hid (∀ k, k ≤ x.Rows.length → (cpTo zMk (rowsL x) k).length = x.Rows.length) := fun k hk => by unfold cpTo; rw [List.length_append, List.length_take, List.length_replicate, HRL.out]; omega
  have HCST : Hid (∀ k c m, x.Rows[k]? = some c → x.Marks[k]? = some m → (cpTo zMk (rowsL x) k).set k (c, m) = cpTo zMk (rowsL x) (k + 1)) := fun k c m h1 h2 => cpTo_step _ _ _ (HAT3.out k c m h1 h2)
  generalize hnn : x.Rows.length = n at *
  go_wp2_with (at_make; refine wpList_make_full _ rfl _ _ 82 rfl w1.heap.size 69 i0 (.agg #[.slice none 0 0, .slice none 0 0]) 2 Tryz.underlying82 hi hz0 hz1 .i64 .i64 _ _ n rfl rfl rfl rfl (by rw [hz2]; omega) (by unfold maxLen; omega) (Nat.le_refl _) ?_; intro w4 hown4 hgrow4; have hb14 : Below w1.heap.size w1 w4 := ((Below.refl _ _).grown hgrow4 (Nat.le_refl _) (fun _ h => by cases h)); have b24 := (HX1.out.kept hb14).cell 2 rfl; clear b2)
  have HO4 : Hid (OwnRd rMk 69 false w1.heap.size w4 (.slice (some ⟨w1.heap.size, 0, none⟩) n n) (cpTo zMk (rowsL x) 0) (fun _ => True)) := by
    unfold Hid
    rw [H0.out, HRL.out]
    rw [show (Value.cells (.agg #[.slice none 0 0, .slice none 0 0])) = #[.slice none 0 0, .slice none 0 0] from rfl] at hown4
    refine ⟨_, fun _ _ => False, by rw [List.length_replicate]; exact hown4, fun k y hk => ?_⟩
    rw [List.getElem?_replicate] at hk
    split at hk
    · cases hk
      refine ⟨[.slice none 0 0, .slice none 0 0], ?_, rMk_mk (F1 := fun _ => False) (F2 := fun _ => False) (RowRd.nil _ _ _) (RowRd.nil _ _ _) (fun _ h => h) (fun _ h => h) (fun h => by cases h), fun _ h => h.elim, fun h => by cases h⟩
      intro j u hj
      have hjn : j < 2 := (List.getElem?_eq_some_iff.1 hj).1
      rw [show rMk.size = 2 from rfl, made_at _ _ _ (by omega) (by decide), show (#[.slice none 0 0, .slice none 0 0] : Array Value).size = 2 from rfl, show (k * 2 + j) % 2 = j by omega]
      simpa using hj
    · cases hk
  have HW4 := Lib.hid hb14
  have HX4 := Lib.hid (HX1.out.kept hb14)
  have hbl : w1.heap.size < w4.heap.size := by
    obtain ⟨_, _, hw, _⟩ := HO4.out
    rcases hw.2 with ⟨h, _⟩ | ⟨g, cp, cur, hv, _, hg, _⟩
    · cases h
    · cases hv; exact (Array.getElem?_eq_some_iff.1 hg).1
  clear hown4 hgrow4 hb14
  go_wp2
  clear b24
  go_loopw [16] (fun i wr => ∃ (k : Nat), k ≤ n ∧ i = .int .i64 k ∧ OwnRd rMk 69 false w1.heap.size wr (.slice (some ⟨w1.heap.size, 0, none⟩) n n) (cpTo zMk (rowsL x) k) (fun _ => True) ∧ w4.heap.size ≤ wr.heap.size ∧ Below w1.heap.size w1 wr) (fun i _ => n - (intOf i).toNat)
  case atStart => exact ⟨0, by omega, rfl, HO4.out, Nat.le_refl _, HW4.out⟩
  case round =>
    obtain ⟨k, hk, rfl, hown, hsz, hbe0⟩ := hrel
    obtain ⟨w5, rfl⟩ : ∃ w5 : World, w5 = wr := ⟨_, rfl⟩
    have HO := Lib.hid hown
    have HBE := Lib.hid hbe0
    have HBW := Lib.hid (below_step HB1.out hbe0)
    have HBX := Lib.hid (HX1.out.kept hbe0)
    clear hown hbe0
    by_cases hkl : k < n
    · obtain ⟨c, hc⟩ := HX2.out k (by omega)
      obtain ⟨m, hmk⟩ := HX3.out k (by omega)
      have HSX := Lib.hid (HCST.out k c m hc hmk)
      have HKL := Lib.hid (HCL.out k hk)
      obtain ⟨g2, o2, xs2, G2, rfl, -, hr2', hG2, hc2⟩ := HV.out.rows.get hc
      obtain ⟨v2, rfl, q2⟩ := rCandidate_rd hr2'
      obtain ⟨g3, o3, xs3, G3, rfl, -, hr3', hG3, hc3⟩ := HV.out.marks.get hmk
      obtain ⟨v3, rfl, q3⟩ := id hr3'
      rw [rCandidate_size] at hc2
      rw [show (Rep.row Rep.int).size = 1 from rfl] at hc3
      have d2 := hc2 0 _ rfl
      have d3 := hc3 0 _ rfl
      simp only [Nat.add_zero, Nat.mul_one] at d2 d3
      have hlt3 : g3 < w.heap.size := block_lt_of_cell d3
      replace d2 := cell_kept HBW.out d2
      replace d3 := cell_kept HBW.out d3
      obtain ⟨A2', cp2, rfl⟩ := q2.form
      obtain ⟨A3', cp3, rfl⟩ := q3.form
      have hwlt : w.heap.size < w1.heap.size := HX1.out.lt
      have h15 : w1.heap.size < w5.heap.size := by omega
      have HWB : Hid (Below w5.heap.size w5 (w5.alloc (.cells #[.slice A2' c.Links.length cp2] 59))) := (Below.refl _ _).alloc (Nat.le_refl _) _
      have HWD : Hid (Below w5.heap.size w5 (w5.alloc (.cells #[.slice A2' c.Links.length cp2] 59)).drew) := HWB.out.drew
      have HIB : Hid (InC (w5.alloc (.cells #[.slice A2' c.Links.length cp2] 59)).drew w5.heap.size #[.slice A2' c.Links.length cp2] 59) := heap_alloc_new _ _
      have HQX : Hid (rMk.rd false (w5.alloc (.cells #[.slice A2' c.Links.length cp2] 59)).drew [.slice A2' c.Links.length cp2, .slice A3' m.length cp3] (c, m) (fun p => G2 p ∨ G3 p)) := rMk_mk (x := (c, m)) (F1 := G2) (F2 := G3) ((q2.kept HBW.out).kept HWD.out) ((q3.kept HBW.out).kept HWD.out) (fun _ h => Or.inl h) (fun _ h => Or.inr h) (fun h => by cases h)
      have HFX : Hid (∀ p, G2 p ∨ G3 p → p.block < (w5.alloc (.cells #[.slice A2' c.Links.length cp2] 59)).drew.heap.size ∧ p.block ≠ w1.heap.size) := fun p hp => by
        have h1 : p.block < w.heap.size := hp.elim (fun h => (hG2 p h).2) (fun h => (hG3 p h).2)
        have h2 : w5.heap.size ≤ (w5.alloc (.cells #[.slice A2' c.Links.length cp2] 59)).drew.heap.size := HWD.out.size
        exact ⟨by omega, by omega⟩
      have HOD := Lib.hid (HO.out.kept HWD.out)
      have HS0 : Hid ((w5.alloc (.cells #[.slice A2' c.Links.length cp2] 59)).drew.cell? ⟨w5.heap.size, 0, none⟩ = some (.slice A2' c.Links.length cp2) ∧ (w5.alloc (.cells #[.slice A2' c.Links.length cp2] 59)).drew.cell? ⟨w.heap.size, 3, none⟩ = some (.slice (some ⟨g3, o3, none⟩) x.Marks.length c3) ∧ (w5.alloc (.cells #[.slice A2' c.Links.length cp2] 59)).drew.cell? ⟨g3, o3 + k, none⟩ = some (.slice A3' m.length cp3)) := ⟨HIB.out.cell 0 rfl, (HBX.out.kept HWD.out).cell 3 rfl, cell_kept HWD.out d3⟩
      obtain ⟨⟨z0, e0⟩, ⟨z1, e1⟩, f0, f1⟩ := HOD.out.at2 rmk2 HKL.out hkl
      have HNEW := Lib.hid ((HOD.out.set2 rmk2 HKL.out hkl HQX.out HFX.out).mono (G' := fun _ => True) (fun _ _ => trivial))
      rw [HSX.out] at HNEW
      have HBB : Hid (Below w1.heap.size w1 (((w5.alloc (.cells #[.slice A2' c.Links.length cp2] 59)).drew.setCell ⟨w1.heap.size, k * 2, none⟩ (.slice A2' c.Links.length cp2)).setCell ⟨w1.heap.size, k * 2 + 1, none⟩ (.slice A3' m.length cp3))) := ((below_step HBE.out HWD.out).setCell (p := ⟨w1.heap.size, k * 2, none⟩) (Nat.le_refl _) _).setCell (p := ⟨w1.heap.size, k * 2 + 1, none⟩) (Nat.le_refl _) _
      have HSS : Hid (w4.heap.size ≤ (((w5.alloc (.cells #[.slice A2' c.Links.length cp2] 59)).drew.setCell ⟨w1.heap.size, k * 2, none⟩ (.slice A2' c.Links.length cp2)).setCell ⟨w1.heap.size, k * 2 + 1, none⟩ (.slice A3' m.length cp3)).heap.size) := by
        have h2 : w5.heap.size ≤ (w5.alloc (.cells #[.slice A2' c.Links.length cp2] 59)).drew.heap.size := HWD.out.size
        unfold Hid; simp only [World.setCell_size11]; omega
      have hkm : (k : Int) < (x.Marks.length : Int) := by omega
      have hkr : (k : Int) < (n : Int) := by omega
      clear hc2 hc3 hr2' hr3' q2 q3 hG2 hG3 HQX HFX HOD HSX hc hmk d3
      go_upto_region 7 with fail
      clear d2
      refine wp_region_held_drew (S := fun w' => w'.cell? ⟨w5.heap.size, 0, none⟩ = some (.slice A2' c.Links.length cp2) ∧ w'.cell? ⟨w.heap.size, 3, none⟩ = some (.slice (some ⟨g3, o3, none⟩) x.Marks.length c3) ∧ w'.cell? ⟨g3, o3 + k, none⟩ = some (.slice A3' m.length cp3)) (by kernel_rfl) HS0.out (fun hHeld => ?_)
      generalize (w5.alloc (.cells #[.slice A2' c.Links.length cp2] 59)).drew = WD at *
      refine' wpAnyH_take (i := 0) (oi := _) (v := ?v1) rfl ?hs1 ?hf1 ?hr1 ?hQ1 (Or.inl ⟨?hw1, ?hy1⟩) hHeld ?rest1
      case hs1 => kernel_rfl
      case hf1 => kernel_rfl
      case hr1 => kernel_rfl
      case hQ1 => exact fun _ _ _ h => h
      case hw1 => kernel_rfl
      case hy1 => (intro w' hw'; go_simp; try with_reducible rfl)
      (try change wpAnyH _ _ _ _ _ _ _ (Act.put _ (some 21) _) _)
      try simp only [Act.put, List.setIfInBounds_toArray, List.set_cons_zero, List.set_cons_succ]
      refine' wpAnyH_take (i := 1) (oi := _) (v := ?v2) rfl ?hs2 ?hf2 ?hr2 ?hQ2 (Or.inl ⟨?hw2, ?hy2⟩) hHeld ?rest2
      case hs2 => kernel_rfl
      case hf2 => kernel_rfl
      case hr2 => kernel_rfl
      case hQ2 => exact fun _ _ _ h => h
      case hw2 => kernel_rfl
      case hy2 => (intro w' hw'; go_simp; try with_reducible rfl)
      (try change wpAnyH _ _ _ _ _ _ _ (Act.put _ (some 22) _) _)
      try simp only [Act.put, List.setIfInBounds_toArray, List.set_cons_zero, List.set_cons_succ]
      refine' wpAnyH_take (i := 2) (oi := _) (v := ?v3) rfl ?hs3 ?hf3 ?hr3 ?hQ3 (Or.inl ⟨?hw3, ?hy3⟩) hHeld ?rest3
      case hs3 => kernel_rfl
      case hf3 => kernel_rfl
      case hr3 => kernel_rfl
      case hQ3 => exact fun _ _ _ h => h
      case hw3 => kernel_rfl
      case hy3 => (intro w' hw'; have cA := hw'.1; have cB := hw'.2.1; have cC := hw'.2.2; clear hw'; go_simp; try with_reducible rfl)
      (try change wpAnyH _ _ _ _ _ _ _ (Act.put _ (some 23) _) _)
      try simp only [Act.put, List.setIfInBounds_toArray, List.set_cons_zero, List.set_cons_succ]
      refine' wpAnyH_take (i := 3) (oi := _) (v := ?v4) rfl ?hs4 ?hf4 ?hr4 ?hQ4 (Or.inl ⟨?hw4, ?hy4⟩) hHeld ?rest4
      case hs4 => kernel_rfl
      case hf4 => kernel_rfl
      case hr4 => kernel_rfl
      case hQ4 => exact fun _ _ _ h => h
      case hw4 => kernel_rfl
      case hy4 => (intro w' hw'; go_simp; try with_reducible rfl)
      (try change wpAnyH _ _ _ _ _ _ _ (Act.put _ (some 24) _) _)
      try simp only [Act.put, List.setIfInBounds_toArray, List.set_cons_zero, List.set_cons_succ]
      refine' wpAnyH_take (i := 4) (oi := _) (v := ?v5) rfl ?hs5 ?hf5 ?hr5 ?hQ5 (Or.inl ⟨?hw5, ?hy5⟩) hHeld ?rest5
      case hs5 => kernel_rfl
      case hf5 => kernel_rfl
      case hr5 => kernel_rfl
      case hQ5 => exact fun _ _ _ h => h
      case hw5 => kernel_rfl
      case hy5 => (intro w' hw'; have cA := hw'.1; have cB := hw'.2.1; have cC := hw'.2.2; clear hw'; go_simp; try with_reducible rfl)
      (try change wpAnyH _ _ _ _ _ _ _ (Act.put _ (some 25) _) _)
      try simp only [Act.put, List.setIfInBounds_toArray, List.set_cons_zero, List.set_cons_succ]
      refine' wpAnyH_take (i := 5) (oi := _) (v := ?v6) rfl ?hs6 ?hf6 ?hr6 ?hQ6 (Or.inl ⟨?hw6, ?hy6⟩) hHeld ?rest6
      case hs6 => kernel_rfl
      case hf6 => kernel_rfl
      case hr6 => kernel_rfl
      case hQ6 => exact fun _ _ _ h => h
      case hw6 => kernel_rfl
      case hy6 => (intro w' hw'; go_simp; try with_reducible rfl)
      (try change wpAnyH _ _ _ _ _ _ _ (Act.put _ (some 26) _) _)
      try simp only [Act.put, List.setIfInBounds_toArray, List.set_cons_zero, List.set_cons_succ]
      refine' wpAnyH_take (i := 6) (oi := _) (v := ?v7) rfl ?hs7 ?hf7 ?hr7 ?hQ7 (Or.inl ⟨?hw7, ?hy7⟩) hHeld ?rest7
      case hs7 => kernel_rfl
      case hf7 => kernel_rfl
      case hr7 => kernel_rfl
      case hQ7 => exact fun _ _ _ h => h
      case hw7 => kernel_rfl
      case hy7 => (intro w' hw'; go_simp; try with_reducible rfl)
      (try change wpAnyH _ _ _ _ _ _ _ (Act.put _ (some 27) _) _)
      try simp only [Act.put, List.setIfInBounds_toArray, List.set_cons_zero, List.set_cons_succ]
      refine' wpAnyH_take (i := 7) (oi := _) (v := ?v8) rfl ?hs8 ?hf8 ?hr8 ?hQ8 (Or.inl ⟨?hw8, ?hy8⟩) hHeld ?rest8
      case hs8 => kernel_rfl
      case hf8 => kernel_rfl
      case hr8 => kernel_rfl
      case hQ8 => exact fun _ _ _ h => h
      case hw8 => kernel_rfl
      case hy8 => (intro w' hw'; have cA := hw'.1; have cB := hw'.2.1; have cC := hw'.2.2; clear hw'; go_simp; try with_reducible rfl)
      (try change wpAnyH _ _ _ _ _ _ _ (Act.put _ (some 28) _) _)
      try simp only [Act.put, List.setIfInBounds_toArray, List.set_cons_zero, List.set_cons_succ]
      refine' wpAnyH_take (i := 8) (oi := _) (v := ?v9) rfl ?hs9 ?hf9 ?hr9 ?hQ9 (Or.inl ⟨?hw9, ?hy9⟩) hHeld ?rest9
      case hs9 => kernel_rfl
      case hf9 => kernel_rfl
      case hr9 => kernel_rfl
      case hQ9 => exact fun _ _ _ h => h
      case hw9 => kernel_rfl
      case hy9 => (intro w' hw'; go_simp; try with_reducible rfl)
      (try change wpAnyH _ _ _ _ _ _ _ (Act.put _ (some 29) _) _)
      try simp only [Act.put, List.setIfInBounds_toArray, List.set_cons_zero, List.set_cons_succ]
      refine' wpAnyH_take (i := 9) (oi := _) (v := ?v10) rfl ?hs10 ?hf10 ?hr10 ?hQ10 (Or.inl ⟨?hw10, ?hy10⟩) hHeld ?rest10
      case hs10 => kernel_rfl
      case hf10 => kernel_rfl
      case hr10 => kernel_rfl
      case hQ10 => exact fun _ _ _ h => h
      case hw10 => kernel_rfl
      case hy10 => (intro w' hw'; go_simp; try with_reducible rfl)
      (try change wpAnyH _ _ _ _ _ _ _ (Act.put _ (some 30) _) _)
      try simp only [Act.put, List.setIfInBounds_toArray, List.set_cons_zero, List.set_cons_succ]
      refine wpAnyH_ready (rs := [10]) (by kernel_rfl) (by simp) ?_
      refine AllReadyH.cons rfl (fun K hK => ?_) AllReadyH.nil
      go_simp
      skip
      (try go_wp2_with fail)
      refine hK.out _ _ ⟨(cs_far2 (p := ⟨w5.heap.size, 0, none⟩) (by show w5.heap.size ≠ w1.heap.size; omega)).trans hHeld.1, (cs_far2 (p := ⟨w.heap.size, 3, none⟩) (by show w.heap.size ≠ w1.heap.size; omega)).trans hHeld.2.1, (cs_far2 (p := ⟨g3, o3 + k, none⟩) (by show g3 ≠ w1.heap.size; omega)).trans hHeld.2.2⟩ (fun hHeld => ?_)
      clear hK K
      try simp only [Act.put, List.setIfInBounds_toArray, List.set_cons_zero, List.set_cons_succ]
      refine wpAnyH_done ?hdone11 ?hq11 _
      case hdone11 => kernel_rfl
      go_wp2
      go_roundw
      case rel => exact ⟨k + 1, by omega, by go_num, HNEW.out, HSS.out, HBB.out⟩
      case measure => simp [intOf]; omega
    · obtain rfl : k = n := by omega
      have hro := HO.out.row (by rw [HCL.out k (Nat.le_refl _)]; omega)
      have hca := HCA.out
      rw [HRL.out] at hca
      rw [hca] at hro
      have HRO := Lib.hid hro
      clear hro hca
      go_wp2
      go_ret
      exact HP.out _ _ _ HRO.out HBW.out
end Go.Proofs.YtcgmlhlnkbjfnaaGreatDoor

/- The program's RowWith: what it answers. -/
namespace Go.Proofs.YtcgmlhlnkbjfnaaGreatDoor
set_option maxRecDepth 100000
open Go.RowKit Go.Sort M
set_option linter.unusedVariables false
set_option linter.unusedSimpArgs false

set_option maxHeartbeats 16000000 in
theorem implRw_any (x : DTableau) (A1 : Option Addr) (c1 : Nat) (A2 : Option Addr) (c2 : Nat) (A3 : Option Addr) (c3 : Nat) (F1 F2 F3 : Addr → Prop) (out : ByteArray) (w : World) (hm : rTableau.sz x ≤ 1048576) (hv : TabRd false w (.slice A1 x.Names.length c1) (.slice A2 x.Rows.length c2) (.slice A3 x.Marks.length c3) x F1 F2 F3) (hT : FeatTab w) :
    Calls Tryz.prog 23 #[.agg #[.string x.Input, .slice A1 x.Names.length c1, .slice A2 x.Rows.length c2, .slice A3 x.Marks.length c3], .string out] w fun e w' => e = .returned (.int .i64 (rowW x out)) ∧ Below w.heap.size w w' := by
  obtain ⟨hz0, hz1, hz2, hz3, hz4, hz5⟩ := szTab_parts hm
  have HZ4 : Hid (∀ (k : Nat) p, (rowsL x)[k]? = some p → p.1.Links.length ≤ 1048576 ∧ x.Rows[k]? = some p.1) := fun k p h => ⟨hz4 k p.1 (rowsL_of h).2.1, (rowsL_of h).2.1⟩
  have HRS : Hid (∀ W, Below w.heap.size w W → Calls Tryz.prog 66 #[.agg #[.string x.Input, .slice A1 x.Names.length c1, .slice A2 x.Rows.length c2, .slice A3 x.Marks.length c3]] W (MkPost x W)) := fun W hW => implRows_any x A1 c1 A2 c2 A3 c3 F1 F2 F3 W hm (hv.kept hW) (feat_below hT hW)
  have HSO : Hid (∀ (c : DCandidate) (v : Value) (G : Addr → Prop) W, c.Links.length ≤ 1048576 → RowRd rLink false W v c.Links G → Calls Tryz.prog 67 #[.agg #[v]] W fun e w' => e = .returned (.string (outT c.Links)) ∧ Below W.heap.size W w') := fun c v G W hl hr => implOutput_any c v G W hl hr
  have HSE : Hid (∀ (c : DCandidate) (v : Value) (G : Addr → Prop) W, c.Links.length ≤ 1048576 → RowRd rLink false W v c.Links G → Calls Tryz.prog 68 #[.agg #[v]] W fun e w' => e = .returned (.int .i64 (edits c.Links : Nat)) ∧ Below W.heap.size W w') := fun c v G W hl hr => implEdits_any c v G W hl hr
  have HX2 : Hid (∀ k, k < (rowsL x).length → ∃ y, (rowsL x)[k]? = some y) := fun k hk => ⟨_, List.getElem?_eq_getElem hk⟩
  have HRG := Lib.hid (bestTo_range x out)
  have HOA : Hid (∀ (k : Nat) (c : DCandidate), x.Rows[k]? = some c → outAt x k = outT c.Links ∧ edAt x k = edits c.Links) := fun k c h => ⟨outAt_of h, edAt_of h⟩
  have HTK : Hid (∀ k, outAt x k = out → (bestTo x out k < 0 ∨ edAt x k < edAt x (bestTo x out k).toNat) → bestTo x out (k + 1) = (k : Int)) := fun k h1 h2 => bestTo_take h1 h2
  have HKP : Hid (∀ k, ¬ (outAt x k = out ∧ (bestTo x out k < 0 ∨ edAt x k < edAt x (bestTo x out k).toNat)) → bestTo x out (k + 1) = bestTo x out k) := fun k h => bestTo_keep h
  have HRW : Hid (rowW x out = bestTo x out (rowsL x).length) := rfl
  have H00 : Hid (bestTo x out 0 = -1) := rfl
  have HA : Hid (∀ o, Below w.heap.size w (w.alloc o)) := fun o => (Below.refl _ _).alloc (Nat.le_refl _) _
  clear hv hz4 hz5 hm hT
  go_enter Tryz.func23, Tryz.ntmps23
  go_wp2_with fail
  refine (HRS.out _ (HA.out _)).mono ?_
  rintro e w1 ⟨u, G, rfl, hrow, hb⟩
  obtain ⟨Ar, cr, rfl⟩ := hrow.form
  have hmx := hrow.max
  have HB1 : Hid (Below w.heap.size w w1) := below_step (HA.out _) hb
  have HROW := Lib.hid hrow
  clear hb hrow HRS
  generalize hln : (rowsL x).length = n at *
  go_wp2
  go_loopw [5, 6, 13] (fun u f i wr => ∃ (k : Nat) (fz : Int), k ≤ n ∧ i = .int .i64 k ∧ u = .int .i64 (bestTo x out k) ∧ f = .int .i64 fz ∧ Hid (0 ≤ bestTo x out k → fz = (edAt x (bestTo x out k).toNat : Int)) ∧ Below w1.heap.size w1 wr) (fun _ _ i _ => n - (intOf i).toNat)
  case atStart => exact ⟨0, 0, by omega, rfl, by rw [H00.out], rfl, fun h => by rw [H00.out] at h; omega, Below.refl _ _⟩
  case round =>
    obtain ⟨k, fz, hk, rfl, rfl, rfl, hfz, hbe0⟩ := hrel
    obtain ⟨w2, rfl⟩ : ∃ w2 : World, w2 = wr := ⟨_, rfl⟩
    have HB := Lib.hid hbe0
    have HBW := Lib.hid (below_step HB1.out hbe0)
    clear hbe0
    have hrg := HRG.out k
    by_cases hkl : k < n
    · obtain ⟨⟨c, m⟩, hc⟩ := HX2.out k hkl
      obtain ⟨hl, hcx⟩ := HZ4.out k _ hc
      obtain ⟨ho, hd⟩ := HOA.out k c hcx
      have HL := Lib.hid hl
      have HO := Lib.hid ho
      have HD := Lib.hid hd
      have HTK2 := Lib.hid (HTK.out k)
      have HKP2 := Lib.hid (HKP.out k)
      obtain ⟨g2, o2, xs2, G2, rfl, -, hr2', -, hc2⟩ := (HROW.out.kept HB.out).get hc
      obtain ⟨v2, v3, K1, K2, rfl, q2, q3, _⟩ := rMk_rd hr2'
      rw [rMk_size] at hc2
      have d2 := hc2 0 _ rfl
      have d3 := hc2 1 _ rfl
      simp only [Nat.add_zero] at d2
      have HWB : Hid (∀ o, Below w2.heap.size w2 (w2.alloc o)) := fun o => (Below.refl _ _).alloc (Nat.le_refl _) _
      have HIB : Hid (InC (w2.alloc (.cells #[v2, v3] 69)) w2.heap.size #[v2, v3] 69) := heap_alloc_new _ _
      have HQ2 := Lib.hid q2
      obtain ⟨A2', cp2, rfl⟩ := q2.form
      obtain ⟨A3', cp3, rfl⟩ := q3.form
      have HSO2 : Hid (∀ W, Below w2.heap.size w2 W → Calls Tryz.prog 67 #[.agg #[.slice A2' c.Links.length cp2]] W fun e w' => e = .returned (.string (outT c.Links)) ∧ Below W.heap.size W w') := fun W hW => HSO.out c _ K1 W HL.out (HQ2.out.kept hW)
      have HSE2 : Hid (∀ W, Below w2.heap.size w2 W → Calls Tryz.prog 68 #[.agg #[.slice A2' c.Links.length cp2]] W fun e w' => e = .returned (.int .i64 (edits c.Links : Nat)) ∧ Below W.heap.size W w') := fun W hW => HSE.out c _ K1 W HL.out (HQ2.out.kept hW)
      have hne : ((outT c.Links).toList == out.toList) = decide (outT c.Links = out) := txt_eq _ _
      have hkr : (k : Int) < (n : Int) := by omega
      clear hc hr2' hc2 q2 q3 hl hcx ho hd
      generalize hq : bestTo x out k = q at *
      go_wp2_with fail
      refine (HSO2.out _ (HWB.out _)).mono ?_
      rintro e w3 ⟨rfl, hb⟩
      have HB3 : Hid (Below w2.heap.size w2 w3) := below_step (HWB.out _) hb
      have HI3 := Lib.hid (HIB.out.kept hb)
      clear hb d2 d3
      by_cases hoo : outT c.Links = out
      case neg =>
        have hb0 : decide (outT c.Links = out) = false := decide_eq_false hoo
        rw [hb0] at hne
        have HK : Hid (bestTo x out (k + 1) = q) := HKP2.out (fun h => hoo (HO.out.symm.trans h.1))
        clear hb0 hoo
        go_wp2
        go_roundw
        case rel => exact ⟨k + 1, fz, by omega, by go_num, by rw [HK.out], rfl, by rw [HK.out]; exact hfz, below_step HB.out HB3.out⟩
        case measure => simp [intOf]; omega
      have hb0 : decide (outT c.Links = out) = true := decide_eq_true hoo
      rw [hb0] at hne
      have HOO : Hid (outAt x k = out) := HO.out.trans hoo
      have b0 := HI3.out.cell 0 rfl
      clear hb0 hoo
      go_wp2_with fail
      refine (HSE2.out _ HB3.out).mono ?_
      rintro e w4 ⟨rfl, hb⟩
      have HB4 : Hid (Below w2.heap.size w2 w4) := below_step HB3.out hb
      clear hb b0
      by_cases hq0 : q < 0
      case pos =>
        have HK : Hid (bestTo x out (k + 1) = (k : Int)) := HTK2.out HOO.out (Or.inl hq0)
        have hq1 : decide (q < 0) = true := decide_eq_true hq0
        have HEQ : Hid (0 ≤ bestTo x out (k + 1) → ((edits c.Links : Nat) : Int) = (edAt x (bestTo x out (k + 1)).toNat : Int)) := fun _ => by rw [HK.out, Int.toNat_natCast, HD.out]
        clear hq0
        go_wp2
        go_roundw
        case rel => exact ⟨k + 1, _, by omega, by go_num, by rw [HK.out], rfl, HEQ.out, below_step HB.out HB4.out⟩
        case measure => simp [intOf]; omega
      have hfq := hfz.out (by omega)
      have hq1 : decide (q < 0) = false := decide_eq_false hq0
      by_cases hlt : ((edits c.Links : Nat) : Int) < fz
      case pos =>
        have HK : Hid (bestTo x out (k + 1) = (k : Int)) := HTK2.out HOO.out (Or.inr (by rw [HD.out]; omega))
        have HEQ : Hid (0 ≤ bestTo x out (k + 1) → ((edits c.Links : Nat) : Int) = (edAt x (bestTo x out (k + 1)).toNat : Int)) := fun _ => by rw [HK.out, Int.toNat_natCast, HD.out]
        have hl1 : decide (((edits c.Links : Nat) : Int) < fz) = true := decide_eq_true hlt
        clear hq0 hfq hlt
        go_wp2
        go_roundw
        case rel => exact ⟨k + 1, _, by omega, by go_num, by rw [HK.out], rfl, HEQ.out, below_step HB.out HB4.out⟩
        case measure => simp [intOf]; omega
      have HK : Hid (bestTo x out (k + 1) = q) := HKP2.out (fun h => h.2.elim hq0 fun h => hlt (by rw [HD.out] at h; omega))
      have HFZ : Hid (0 ≤ q → fz = (edAt x q.toNat : Int)) := hfz
      have hl1 : decide (((edits c.Links : Nat) : Int) < fz) = false := decide_eq_false hlt
      clear hq0 hfq hlt
      go_wp2
      go_roundw
      case rel => exact ⟨k + 1, fz, by omega, by go_num, by rw [HK.out], rfl, by rw [HK.out]; exact HFZ.out, below_step HB.out HB4.out⟩
      case measure => simp [intOf]; omega
    · obtain rfl : k = n := by omega
      go_wp2
      go_ret
      exact ⟨ret_i64 HRW.out.symm, HBW.out⟩
end Go.Proofs.YtcgmlhlnkbjfnaaGreatDoor

/- The laws' szStringS. -/
namespace Go.Proofs.YtcgmlhlnkbjfnaaGreatDoor
set_option maxRecDepth 100000
open Go.RowKit Go.Sort M
set_option linter.unusedVariables false
set_option linter.unusedSimpArgs false

def szTo (l : List ByteArray) (k : Nat) : Nat := l.length + ((l.take k).map (·.size)).sum
theorem szTo_zero (l : List ByteArray) : szTo l 0 = l.length := by simp [szTo]
theorem szTo_step {l : List ByteArray} {k : Nat} {x : ByteArray} (h : l[k]? = some x) : szTo l (k + 1) = szTo l k + x.size := by
  unfold szTo
  rw [List.take_add_one, h]
  simp
  omega
theorem szTo_all (l : List ByteArray) : szTo l l.length = szRow (Rep.str mkT) l := by
  unfold szTo szRow
  rw [List.take_length]
  rfl
set_option maxHeartbeats 1000000 in
theorem szStringS_any (v : Value) (l : List ByteArray) (left : Int) (F : Addr → Prop) (w : World) (h0 : 0 ≤ left) (h1 : left ≤ 1048576) (hv : RowRd (Rep.str mkT) false w v l F) :
    Calls Tryz.prog 9 #[v, .int .i64 left] w fun e w' => (∃ z : Int, e = .returned (.int .i64 z) ∧ (z < 0 ∨ z + (szRow (Rep.str mkT) l : Nat) = left ∧ 0 ≤ z)) ∧ Below w.heap.size w w' := by
  have hmx := hv.max
  obtain ⟨A, cap, rfl⟩ := hv.form
  have HV := Lib.hid hv
  clear hv
  have HX : Hid (∀ k, k < l.length → ∃ y, l[k]? = some y) := fun k hk => ⟨_, List.getElem?_eq_getElem hk⟩
  have HS : Hid (szTo l l.length = szRow (Rep.str mkT) l) := szTo_all l
  have H0 : Hid (szTo l 0 = l.length) := szTo_zero l
  have HST : Hid (∀ k x, l[k]? = some x → szTo l (k + 1) = szTo l k + x.size) := fun k x h => szTo_step h
  go_enter Tryz.func9, Tryz.ntmps9
  by_cases h : left - (l.length : Int) < 0
  · go_wp2
    go_ret
    exact ⟨⟨-1, rfl, Or.inl (by omega)⟩, Below.refl _ _⟩
  · go_wp2
    go_loop [1, 5] (fun q i => ∃ (k : Nat) (z : Int), k ≤ l.length ∧ i = .int .i64 k ∧ q = .int .i64 z ∧ 0 ≤ z ∧ z ≤ 1048576 ∧ Hid (z + (szTo l k : Nat) = left)) (fun _ i => l.length - (intOf i).toNat)
    case atStart => exact ⟨0, _, by omega, rfl, rfl, by omega, by omega, by unfold Hid; rw [H0.out]; omega⟩
    case round =>
      obtain ⟨k, z, hk, rfl, rfl, hz0, hz1, hs⟩ := hrel
      by_cases hkl : k < l.length
      · obtain ⟨y, hy⟩ := HX.out k hkl
        have HSY := Lib.hid (HST.out k y hy)
        obtain ⟨g, off, xs, Fk, rfl, _, hra, _, hca⟩ := HV.out.get hy
        obtain ⟨rfl, hys⟩ := hra
        rw [show (Rep.str mkT).size = 1 from rfl] at hca
        have c0 := hca 0 _ rfl
        simp only [Nat.add_zero, Nat.mul_one] at c0
        clear hca hy
        by_cases hneg : z - (y.size : Int) < 0
        · go_wp2
          go_ret
          exact ⟨⟨-1, rfl, Or.inl (by omega)⟩, Below.refl _ _⟩
        · go_wp2
          go_round
          case rel => exact ⟨k + 1, z - (y.size : Int), by omega, by first | rfl | go_num, by first | rfl | go_num, by omega, by omega, by unfold Hid; rw [HSY.out]; have := hs.out; omega⟩
          case measure => simp [intOf]; omega
      · obtain rfl : k = l.length := by omega
        go_wp2
        go_ret
        exact ⟨⟨z, rfl, Or.inr ⟨by rw [← HS.out]; exact hs.out, hz0⟩⟩, Below.refl _ _⟩
end Go.Proofs.YtcgmlhlnkbjfnaaGreatDoor

/- Sizes of rows, element by element. -/
namespace Go.Proofs.YtcgmlhlnkbjfnaaGreatDoor
set_option maxRecDepth 100000
open Go.RowKit
set_option linter.unusedVariables false
set_option linter.unusedSimpArgs false

def szToE {α : Type} (E : Rep α) (l : List α) (k : Nat) : Nat := l.length + ((l.take k).map E.sz).sum
theorem szToE_zero {α : Type} (E : Rep α) (l : List α) : szToE E l 0 = l.length := by simp [szToE]
theorem szToE_step {α : Type} (E : Rep α) {l : List α} {k : Nat} {x : α} (h : l[k]? = some x) : szToE E l (k + 1) = szToE E l k + E.sz x := by
  unfold szToE
  rw [List.take_add_one, h]
  simp
  omega
theorem szToE_all {α : Type} (E : Rep α) (l : List α) : szToE E l l.length = szRow E l := by
  unfold szToE szRow
  rw [List.take_length]
end Go.Proofs.YtcgmlhlnkbjfnaaGreatDoor

/- The laws' szLinkS. -/
namespace Go.Proofs.YtcgmlhlnkbjfnaaGreatDoor
set_option maxRecDepth 100000
open Go.RowKit Go.Sort
set_option linter.unusedVariables false
set_option linter.unusedSimpArgs false

theorem szLinkS_any (v : Value) (l : List DLink) (left : Int) (F : Addr → Prop) (w : World) (h0 : 0 ≤ left) (h1 : left ≤ 1048576) (hv : RowRd rLink false w v l F) :
    Calls Tryz.prog 137 #[v, .int .i64 left] w fun e w' => (∃ z : Int, e = .returned (.int .i64 z) ∧ (z < 0 ∨ z + (szRow rLink l : Nat) = left ∧ 0 ≤ z)) ∧ Below w.heap.size w w' := by
  have HS : Hid (szRow rLink l = l.length) := szRow_flat _ (fun _ => rfl) l
  have hmx := hv.max
  obtain ⟨A, cap, rfl⟩ := hv.form
  clear hv
  generalize l.length = n at *
  go_enter Tryz.func137, Tryz.ntmps137
  by_cases h : left - (n : Int) < 0
  · go_wp2
    go_ret
    exact ⟨⟨-1, rfl, Or.inl (by omega)⟩, Below.refl _ _⟩
  · go_wp2
    go_ret
    exact ⟨⟨_, rfl, Or.inr ⟨by rw [HS.out]; omega, by omega⟩⟩, Below.refl _ _⟩
end Go.Proofs.YtcgmlhlnkbjfnaaGreatDoor
