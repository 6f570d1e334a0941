/- Merged: Tb11 Ic6v Rm11 Ro11 Rp11 RowWithWalk Td11 Dm11 Sq11. -/
import Derived.Test.YtkaihnlknncfdaaGreatDoorQ11
import Derived.Test.YtkaihnlknncfdaaGreatDoorQ7
import Derived.Test.YtkaihnlknncfdaaGreatDoorQ5
import Derived.Test.YtkaihnlknncfdaaGreatDoorQ4
import Derived.BigRegion
import Derived.BigQuiet
import Derived.Test.YtkaihnlknncfdaaGreatDoorQ8
import Derived.Test.YtkaihnlknncfdaaGreatDoorQ9
import Derived.Test.YtkaihnlknncfdaaGreatDoorQ10
import Derived.Deep.RegionWith
import Derived.Deep.DeepCutAuto
/- The first row with an output and fewest edits: plain mathematics. -/
namespace Go.Proofs.YtkaihnlknncfdaaGreatDoor
set_option maxRecDepth 100000
open Go.RowKit Go.Sort M
set_option linter.unusedVariables false
set_option linter.unusedSimpArgs false

def outAt (x : DTableau) (k : Nat) : ByteArray := match x.Rows[k]? with
  | some c => outT c.Links
  | none => ByteArray.empty
def edAt (x : DTableau) (k : Nat) : Nat := match x.Rows[k]? with
  | some c => edits c.Links
  | none => 0
theorem outAt_of {x : DTableau} {k : Nat} {c : DCandidate} (h : x.Rows[k]? = some c) : outAt x k = outT c.Links := by unfold outAt; rw [h]
theorem edAt_of {x : DTableau} {k : Nat} {c : DCandidate} (h : x.Rows[k]? = some c) : edAt x k = edits c.Links := by unfold edAt; rw [h]
/-- The best of the first k rows; -1 if none has the output. -/
def bestTo (x : DTableau) (out : ByteArray) : Nat → Int
  | 0 => -1
  | k + 1 => if outAt x k = out ∧ (bestTo x out k < 0 ∨ edAt x k < edAt x (bestTo x out k).toNat) then (k : Int) else bestTo x out k
theorem bestTo_range (x : DTableau) (out : ByteArray) : ∀ k, -1 ≤ bestTo x out k ∧ bestTo x out k < (k : Int)
  | 0 => by unfold bestTo; omega
  | k + 1 => by
    have ih := bestTo_range x out k
    unfold bestTo
    split <;> omega
theorem bestTo_take {x : DTableau} {out : ByteArray} {k : Nat} (h1 : outAt x k = out) (h2 : bestTo x out k < 0 ∨ edAt x k < edAt x (bestTo x out k).toNat) : bestTo x out (k + 1) = (k : Int) := by
  rw [bestTo, if_pos ⟨h1, h2⟩]
theorem bestTo_keep {x : DTableau} {out : ByteArray} {k : Nat} (h : ¬ (outAt x k = out ∧ (bestTo x out k < 0 ∨ edAt x k < edAt x (bestTo x out k).toNat))) : bestTo x out (k + 1) = bestTo x out k := by
  rw [bestTo, if_neg h]
def rowW (x : DTableau) (out : ByteArray) : Int := bestTo x out (rowsL x).length
theorem rowW_no {x : DTableau} {out : ByteArray} (h : isTab x = false) : rowW x out = -1 := by unfold rowW; rw [rowsL_no h]; rfl
theorem rowW_yes {x : DTableau} {out : ByteArray} (h : isTab x = true) : rowW x out = bestTo x out x.Rows.length := by unfold rowW; rw [rowsL_len h]
end Go.Proofs.YtkaihnlknncfdaaGreatDoor

/- CountEdits of both: what they answer. -/
namespace Go.Proofs.YtkaihnlknncfdaaGreatDoor
set_option maxRecDepth 100000
open Go.RowKit M
set_option linter.unusedVariables false
set_option linter.unusedSimpArgs false

set_option maxHeartbeats 4000000 in
theorem specEdits_any (x : DCandidate) (v : Value) (F : Addr → Prop) (w : World) (hl : x.Links.length ≤ 1048576) (hv : RowRd rLink false w v x.Links F) :
    Calls Tryz.prog 92 #[.agg #[v]] w fun e w' => e = .returned (.int .i64 (edits x.Links : Nat)) ∧ Below w.heap.size w w' := by
  obtain ⟨A, cap, rfl⟩ := hv.form
  have HV := Lib.hid hv
  clear hv
  have HX : Hid (∀ k, k < x.Links.length → ∃ y, x.Links[k]? = some y) := fun k hk => ⟨_, List.getElem?_eq_getElem hk⟩
  generalize x.Links = l at *
  go_enter Tryz.func92, Tryz.ntmps92
  go_wp2
  go_loopw [3, 4] (fun c i wr => ∃ (k : Nat), k ≤ l.length ∧ i = .int .i64 k ∧ c = .int .i64 (edits (l.take k) : Nat) ∧ Below w.heap.size w wr ∧ InC wr w.heap.size #[.slice A l.length cap] 55) (fun _ i _ => l.length - (intOf i).toNat)
  case atStart => exact ⟨0, by omega, rfl, rfl, (Below.refl _ _).alloc (Nat.le_refl _) _, heap_alloc_new _ _⟩
  case round =>
    obtain ⟨k, hk, rfl, rfl, hbe, hi1⟩ := hrel
    have b1 := hi1.cell 0 rfl
    have HBE := Lib.hid hbe
    have HI1 := Lib.hid hi1
    clear hbe hi1
    have hel := edits_len l k
    by_cases hkl : k < l.length
    · obtain ⟨y, hy⟩ := HX.out k hkl
      obtain ⟨g, off, xs, Fk, rfl, _, hra, _, hca⟩ := (HV.out.kept HBE.out).get hy
      obtain rfl := rLink_rd hra
      rw [rLink_size] at hca
      have c0 := hca 0 _ rfl
      have c1 := hca 1 _ rfl
      simp only [Nat.add_zero] at c0
      have HEY := Lib.hid (fun h => edits_yes hy h)
      have HEN := Lib.hid (fun h => edits_no hy h)
      clear hca hra hy
      generalize edits (l.take k) = E0 at *
      generalize (y.In.toNat : Int) = a at *
      generalize (y.Out.toNat : Int) = b at *
      by_cases hab : a = b
      · have HE := Lib.hid (HEN.out hab)
        subst hab
        go_wp2
        go_quiet (fail)
        go_wp2
        go_roundw
        case rel => exact ⟨k + 1, by omega, by go_num, by rw [HE.out], drewN_below HBE.out, inC_drewN HI1.out⟩
        case measure => simp [intOf]; omega
      · have HE := Lib.hid (HEY.out hab)
        go_wp2
        go_quiet (fail)
        go_wp2
        go_roundw
        case rel => exact ⟨k + 1, by omega, by go_num, by rw [HE.out]; go_num, drewN_below HBE.out, inC_drewN HI1.out⟩
        case measure => simp [intOf]; omega
    · obtain rfl : k = l.length := by omega
      rw [List.take_length] at *
      go_wp2
      go_ret
      exact ⟨rfl, HBE.out⟩
set_option maxHeartbeats 4000000 in
theorem implEdits_any (x : DCandidate) (v : Value) (F : Addr → Prop) (w : World) (hl : x.Links.length ≤ 1048576) (hv : RowRd rLink false w v x.Links F) :
    Calls Tryz.prog 93 #[.agg #[v]] w fun e w' => e = .returned (.int .i64 (edits x.Links : Nat)) ∧ Below w.heap.size w w' := by
  obtain ⟨A, cap, rfl⟩ := hv.form
  have HV := Lib.hid hv
  clear hv
  have HX : Hid (∀ k, k < x.Links.length → ∃ y, x.Links[k]? = some y) := fun k hk => ⟨_, List.getElem?_eq_getElem hk⟩
  generalize x.Links = l at *
  go_enter Tryz.func93, Tryz.ntmps93
  go_wp2
  go_loopw [3, 9] (fun c i wr => ∃ (k : Nat), k ≤ l.length ∧ i = .int .i64 k ∧ c = .int .i64 (edits (l.take k) : Nat) ∧ Below w.heap.size w wr ∧ InC wr w.heap.size #[.slice A l.length cap] 55) (fun _ i _ => l.length - (intOf i).toNat)
  case atStart => exact ⟨0, by omega, rfl, rfl, (Below.refl _ _).alloc (Nat.le_refl _) _, heap_alloc_new _ _⟩
  case round =>
    obtain ⟨k, hk, rfl, rfl, hbe, hi1⟩ := hrel
    have b1 := hi1.cell 0 rfl
    have HBE := Lib.hid hbe
    have HI1 := Lib.hid hi1
    clear hbe hi1
    have hel := edits_len l k
    by_cases hkl : k < l.length
    · obtain ⟨y, hy⟩ := HX.out k hkl
      obtain ⟨g, off, xs, Fk, rfl, _, hra, _, hca⟩ := (HV.out.kept HBE.out).get hy
      obtain rfl := rLink_rd hra
      rw [rLink_size] at hca
      have c0 := hca 0 _ rfl
      have c1 := hca 1 _ rfl
      simp only [Nat.add_zero] at c0
      have HEY := Lib.hid (fun h => edits_yes hy h)
      have HEN := Lib.hid (fun h => edits_no hy h)
      clear hca hra hy
      generalize edits (l.take k) = E0 at *
      generalize (y.In.toNat : Int) = a at *
      generalize (y.Out.toNat : Int) = b at *
      by_cases hab : a = b
      · have HE := Lib.hid (HEN.out hab)
        subst hab
        go_wp2
        go_roundw
        case rel => exact ⟨k + 1, by omega, by go_num, by rw [HE.out], HBE.out.alloc HBE.out.size _, HI1.out.kept ((Below.refl _ _).alloc (Nat.le_refl _) _)⟩
        case measure => simp [intOf]; omega
      · have HE := Lib.hid (HEY.out hab)
        go_wp2
        go_roundw
        case rel => exact ⟨k + 1, by omega, by go_num, by rw [HE.out]; go_num, HBE.out.alloc HBE.out.size _, HI1.out.kept ((Below.refl _ _).alloc (Nat.le_refl _) _)⟩
        case measure => simp [intOf]; omega
    · obtain rfl : k = l.length := by omega
      rw [List.take_length] at *
      go_wp2
      go_ret
      exact ⟨rfl, HBE.out⟩
end Go.Proofs.YtkaihnlknncfdaaGreatDoor

/- The model's RowWith: what it answers. -/
namespace Go.Proofs.YtkaihnlknncfdaaGreatDoor
set_option maxRecDepth 100000
open Go.RowKit Go.Sort M
set_option linter.unusedVariables false
set_option linter.unusedSimpArgs false

set_option maxHeartbeats 16000000 in
theorem specRw_any (x : DTableau) (A1 : Option Addr) (c1 : Nat) (A2 : Option Addr) (c2 : Nat) (A3 : Option Addr) (c3 : Nat) (F1 F2 F3 : Addr → Prop) (out : ByteArray) (w : World) (hm : rTableau.sz x ≤ 1048576) (hv : TabRd false w (.slice A1 x.Names.length c1) (.slice A2 x.Rows.length c2) (.slice A3 x.Marks.length c3) x F1 F2 F3) :
    Calls Tryz.prog 42 #[.agg #[.string x.Input, .slice A1 x.Names.length c1, .slice A2 x.Rows.length c2, .slice A3 x.Marks.length c3], .string out] w fun e w' => e = .returned (.int .i64 (rowW x out)) ∧ Below w.heap.size w w' := by
  obtain ⟨hz0, hz1, hz2, hz3, hz4, hz5⟩ := szTab_parts hm
  have HZ4 := Lib.hid hz4
  have HV := Lib.hid hv
  have HIT : Hid (∀ W, Below w.heap.size w W → Calls Tryz.prog 40 #[.agg #[.string x.Input, .slice A1 x.Names.length c1, .slice A2 x.Rows.length c2, .slice A3 x.Marks.length c3]] W fun e w' => e = .returned (.bool (isTab x)) ∧ Below W.heap.size W w') := fun W hW => specTab_any x A1 c1 A2 c2 A3 c3 F1 F2 F3 W hm (hv.kept hW)
  have HSO : Hid (∀ (c : DCandidate) (v : Value) (G : Addr → Prop) W, c.Links.length ≤ 1048576 → RowRd rLink false W v c.Links G → Calls Tryz.prog 61 #[.agg #[v]] W fun e w' => e = .returned (.string (outT c.Links)) ∧ Below W.heap.size W w') := fun c v G W hl hr => specOutput_any c v G W hl hr
  have HSE : Hid (∀ (c : DCandidate) (v : Value) (G : Addr → Prop) W, c.Links.length ≤ 1048576 → RowRd rLink false W v c.Links G → Calls Tryz.prog 92 #[.agg #[v]] W fun e w' => e = .returned (.int .i64 (edits c.Links : Nat)) ∧ Below W.heap.size W w') := fun c v G W hl hr => specEdits_any c v G W hl hr
  have HX2 : Hid (∀ k, k < x.Rows.length → ∃ y, x.Rows[k]? = some y) := fun k hk => ⟨_, List.getElem?_eq_getElem hk⟩
  have HRG := Lib.hid (bestTo_range x out)
  have HTK : Hid (∀ (k : Nat) (c : DCandidate), x.Rows[k]? = some c → (decide (outT c.Links = out) && (decide (bestTo x out k < 0) || decide ((edits c.Links : Int) < (edAt x (bestTo x out k).toNat : Int)))) = true → bestTo x out (k + 1) = (k : Int)) := fun k c h1 h2 => by
    simp only [Bool.and_eq_true, Bool.or_eq_true, decide_eq_true_eq] at h2
    exact bestTo_take (by rw [outAt_of h1]; exact h2.1) (h2.2.elim Or.inl fun h => Or.inr (by rw [edAt_of h1]; omega))
  have HKP : Hid (∀ (k : Nat) (c : DCandidate), x.Rows[k]? = some c → (decide (outT c.Links = out) && (decide (bestTo x out k < 0) || decide ((edits c.Links : Int) < (edAt x (bestTo x out k).toNat : Int)))) = false → bestTo x out (k + 1) = bestTo x out k) := fun k c h1 h2 => by
    refine bestTo_keep fun h3 => ?_
    rw [outAt_of h1, edAt_of h1] at h3
    have h4 : (decide (bestTo x out k < 0) || decide ((edits c.Links : Int) < (edAt x (bestTo x out k).toNat : Int))) = true := by
      rw [Bool.or_eq_true, decide_eq_true_eq, decide_eq_true_eq]
      exact h3.2.elim Or.inl fun h => Or.inr (by omega)
    rw [decide_eq_true h3.1, h4] at h2
    cases h2
  have HED : Hid (∀ (k : Nat) (c : DCandidate), x.Rows[k]? = some c → edAt x k = edits c.Links) := fun k c h => edAt_of h
  have HNO : Hid (∀ b, isTab x = b → b = false → rowW x out = -1) := fun b h1 h2 => rowW_no (h1.trans h2)
  have HYE : Hid (∀ b, isTab x = b → b = true → rowW x out = bestTo x out x.Rows.length ∧ 1 ≤ x.Rows.length) := fun b h1 h2 => ⟨rowW_yes (h1.trans h2), (headT_parts (headT_of (h1.trans h2))).2.2.1⟩
  have HN2 := Lib.hid (HNO.out _ rfl)
  have HY2 := Lib.hid (HYE.out _ rfl)
  clear hv hz4 hz5 hm HNO HYE
  generalize isTab x = t at *
  have HA : Hid (∀ o, Below w.heap.size w (w.alloc o)) := fun o => (Below.refl _ _).alloc (Nat.le_refl _) _
  have HA1 : Hid (InC (w.alloc (.cells #[.string x.Input, .slice A1 x.Names.length c1, .slice A2 x.Rows.length c2, .slice A3 x.Marks.length c3] 32)) w.heap.size #[.string x.Input, .slice A1 x.Names.length c1, .slice A2 x.Rows.length c2, .slice A3 x.Marks.length c3] 32) := heap_alloc_new _ _
  have H00 : Hid (bestTo x out 0 = -1) := rfl
  go_enter Tryz.func42, Tryz.ntmps42
  go_wp2
  go_loopw [5, 6] (fun u i wr => ∃ (k : Nat), k ≤ x.Rows.length ∧ i = .int .i64 k ∧ u = .int .i64 (bestTo x out k) ∧ (0 < k → t = true) ∧ InC wr w.heap.size #[.string x.Input, .slice A1 x.Names.length c1, .slice A2 x.Rows.length c2, .slice A3 x.Marks.length c3] 32 ∧ Below w.heap.size w wr) (fun _ i _ => x.Rows.length - (intOf i).toNat)
  case atStart => exact ⟨0, by omega, rfl, by rw [H00.out], fun h => by omega, HA1.out, HA.out _⟩
  case round =>
    obtain ⟨k, hk, rfl, rfl, hpos, hbox, hbe0⟩ := hrel
    obtain ⟨w2, rfl⟩ : ∃ w2 : World, w2 = wr := ⟨_, rfl⟩
    have HB := Lib.hid hbe0
    have HBX := Lib.hid hbox
    clear hbe0 hbox
    have hrg := HRG.out k
    by_cases hkl : k < x.Rows.length
    · have b2 := HBX.out.cell 2 rfl
      have b0 := HBX.out.cell 0 rfl
      have b1 := HBX.out.cell 1 rfl
      have b3 := HBX.out.cell 3 rfl
      generalize hq : bestTo x out k = q at *
      go_wp2_with fail
      refine (HIT.out _ HB.out).mono ?_
      rintro e w3 ⟨rfl, hb⟩
      have HB3 := Lib.hid (below_step HB.out hb)
      have HBX3 := Lib.hid (HBX.out.kept hb)
      clear hb b0 b1 b2 b3
      cases t with
      | false =>
        have hk0 : k = 0 := by rcases Nat.eq_zero_or_pos k with h | h; exact h; exact absurd (hpos h) (by simp)
        have HN : Hid (rowW x out = q) := by unfold Hid; rw [HN2.out rfl, ← hq, hk0]; rfl
        clear hq
        go_wp2_with fail
        go_ret
        exact ⟨ret_i64 HN.out.symm, HB3.out⟩
      | true =>
      obtain ⟨c, hc⟩ := HX2.out k hkl
      have HL := Lib.hid (HZ4.out k c hc)
      have HTK2 := Lib.hid (HTK.out k c hc)
      have HKP2 := Lib.hid (HKP.out k c hc)
      rw [hq] at HTK2 HKP2
      obtain ⟨g2, o2, xs2, G2, rfl, -, hr2', -, hc2⟩ := (HV.out.rows.kept HB3.out).get hc
      obtain ⟨v2, rfl, q2⟩ := rCandidate_rd hr2'
      rw [rCandidate_size] at hc2
      have d2 := hc2 0 _ rfl
      simp only [Nat.add_zero, Nat.mul_one] at d2
      have HC2 : Hid (∀ W : World, Below w3.heap.size w3 W → W.cell? ⟨g2, o2 + k, none⟩ = some v2) := fun W hW => cell_kept hW d2
      have HQ2 := Lib.hid q2
      have HW : Hid (∀ W : World, Below w3.heap.size w3 W → Below w.heap.size w W) := fun W hW => below_step HB3.out hW
      have HB2 : Hid (∀ W : World, Below w3.heap.size w3 W → W.cell? ⟨w.heap.size, 2, none⟩ = some (.slice (some ⟨g2, o2, none⟩) x.Rows.length c2)) := fun W hW => (HBX3.out.kept hW).cell 2 rfl
      have HIN : Hid (∀ W, Below w3.heap.size w3 W → Calls Tryz.prog 61 #[.agg #[v2]] W fun e w' => e = .returned (.string (outT c.Links)) ∧ Below W.heap.size W w') := fun W hW => HSO.out c v2 G2 W HL.out (HQ2.out.kept hW)
      have HIE : Hid (∀ W, Below w3.heap.size w3 W → Calls Tryz.prog 92 #[.agg #[v2]] W fun e w' => e = .returned (.int .i64 (edits c.Links : Nat)) ∧ Below W.heap.size W w') := fun W hW => HSE.out c v2 G2 W HL.out (HQ2.out.kept hW)
      have hne : ((outT c.Links).toList == out.toList) = decide (outT c.Links = out) := txt_eq _ _
      have hkr : (k : Int) < (x.Rows.length : Int) := by omega
      clear hc hr2' hc2 d2 q2
      have HY3 := Lib.hid (HY2.out rfl).1
      have HBEST : Hid (bestTo x out k = q) := hq
      clear hq HN2 HY2 HTK HKP
      generalize hbi : decide (outT c.Links = out) = bi at *
      clear hbi
      obtain ⟨p, hp, HPR⟩ : ∃ p : Bool, (bi && (decide (q < 0) || decide ((edits c.Links : Int) < (edAt x q.toNat : Int)))) = p ∧ True := ⟨_, rfl, trivial⟩
      have HP := Lib.hid hp
      go_upto_region 5 with fail
      go_cut [44] (fun b wx => b = .bool p ∧ Below w3.heap.size w3 wx)
      case first =>
        clear hp
        refine wp_region_held_drew (S := fun w' => Below w3.heap.size w3 w') (by kernel_rfl) ((Below.refl _ _).drew) (fun hHeld => ?_)
        cases bi
        · refine' wpAnyH_take (i := 0) (oi := _) (v := ?v1) rfl ?hs1 ?hf1 ?hr1 ?hQ1 (Or.inl ⟨?hw1, ?hy1⟩) hHeld ?rest1
          case hs1 => kernel_rfl
          case hf1 => kernel_rfl
          case hr1 => kernel_rfl
          case hQ1 => exact fun _ _ _ h => h
          case hw1 => kernel_rfl
          case hy1 => (intro w' hw'; go_simp; try with_reducible rfl)
          (try change wpAnyH _ _ _ _ _ _ _ (Act.put _ (some 18) _) _)
          try simp only [Act.put, List.setIfInBounds_toArray, List.set_cons_zero, List.set_cons_succ]
          refine' wpAnyH_take (i := 1) (oi := _) (v := ?v2) rfl ?hs2 ?hf2 ?hr2 ?hQ2 (Or.inl ⟨?hw2, ?hy2⟩) hHeld ?rest2
          case hs2 => kernel_rfl
          case hf2 => kernel_rfl
          case hr2 => kernel_rfl
          case hQ2 => exact fun _ _ _ h => h
          case hw2 => kernel_rfl
          case hy2 => (intro w' hw'; have c2' := HB2.out _ hw'; have c4' := HC2.out _ hw'; go_simp; try with_reducible rfl)
          (try change wpAnyH _ _ _ _ _ _ _ (Act.put _ (some 19) _) _)
          try simp only [Act.put, List.setIfInBounds_toArray, List.set_cons_zero, List.set_cons_succ]
          refine' wpAnyH_take (i := 2) (oi := _) (v := ?v3) rfl ?hs3 ?hf3 ?hr3 ?hQ3 (Or.inl ⟨?hw3, ?hy3⟩) hHeld ?rest3
          case hs3 => kernel_rfl
          case hf3 => kernel_rfl
          case hr3 => kernel_rfl
          case hQ3 => exact fun _ _ _ h => h
          case hw3 => kernel_rfl
          case hy3 => (intro w' hw'; go_simp; try with_reducible rfl)
          (try change wpAnyH _ _ _ _ _ _ _ (Act.put _ (some 20) _) _)
          try simp only [Act.put, List.setIfInBounds_toArray, List.set_cons_zero, List.set_cons_succ]
          refine' wpAnyH_take (i := 3) (oi := _) (v := ?v4) rfl ?hs4 ?hf4 ?hr4 ?hQ4 (Or.inl ⟨?hw4, ?hy4⟩) hHeld ?rest4
          case hs4 => kernel_rfl
          case hf4 => kernel_rfl
          case hr4 => kernel_rfl
          case hQ4 => exact fun _ _ _ h => h
          case hw4 => kernel_rfl
          case hy4 => (intro w' hw'; go_simp; try with_reducible rfl)
          (try change wpAnyH _ _ _ _ _ _ _ (Act.put _ (some 21) _) _)
          try simp only [Act.put, List.setIfInBounds_toArray, List.set_cons_zero, List.set_cons_succ]
          refine' wpAnyH_take (i := 4) (oi := _) (v := ?v5) rfl ?hs5 ?hf5 ?hr5 ?hQ5 (Or.inl ⟨?hw5, ?hy5⟩) hHeld ?rest5
          case hs5 => kernel_rfl
          case hf5 => kernel_rfl
          case hr5 => kernel_rfl
          case hQ5 => exact fun _ _ _ h => h
          case hw5 => kernel_rfl
          case hy5 => (intro w' hw'; have c2' := HB2.out _ hw'; have c4' := HC2.out _ hw'; go_simp; try with_reducible rfl)
          (try change wpAnyH _ _ _ _ _ _ _ (Act.put _ (some 22) _) _)
          try simp only [Act.put, List.setIfInBounds_toArray, List.set_cons_zero, List.set_cons_succ]
          refine' wpAnyH_take (i := 6) (oi := _) (v := ?v6) rfl ?hs6 ?hf6 ?hr6 ?hQ6 (Or.inl ⟨?hw6, ?hy6⟩) hHeld ?rest6
          case hs6 => kernel_rfl
          case hf6 => kernel_rfl
          case hr6 => kernel_rfl
          case hQ6 => exact fun _ _ _ h => h
          case hw6 => kernel_rfl
          case hy6 => (intro w' hw'; go_simp; try with_reducible rfl)
          (try change wpAnyH _ _ _ _ _ _ _ (Act.put _ (some 24) _) _)
          try simp only [Act.put, List.setIfInBounds_toArray, List.set_cons_zero, List.set_cons_succ]
          refine wpAnyH_ready (rs := [5]) (by kernel_rfl) (by simp) ?_
          refine AllReadyH.cons rfl (fun K hK => ?_) AllReadyH.nil
          go_simp
          go_at_call 61; refine (HIN.out _ hHeld).mono ?_; rintro e wa ⟨rfl, hba⟩; have hbe := below_step hHeld hba; clear hba
          (try go_wp2_with fail)
          refine hK.out _ _ hbe (fun hHeld => ?_)
          clear hK K
          try simp only [Act.put, List.setIfInBounds_toArray, List.set_cons_zero, List.set_cons_succ]
          refine' wpAnyH_take (i := 7) (oi := _) (v := ?v7) rfl ?hs7 ?hf7 ?hr7 ?hQ7 (Or.inl ⟨?hw7, ?hy7⟩) hHeld ?rest7
          case hs7 => kernel_rfl
          case hf7 => kernel_rfl
          case hr7 => kernel_rfl
          case hQ7 => exact fun _ _ _ h => h
          case hw7 => kernel_rfl
          case hy7 => (intro w' hw'; go_simp; try with_reducible rfl)
          (try change wpAnyH _ _ _ _ _ _ _ (Act.put _ (some 25) _) _)
          try simp only [Act.put, List.setIfInBounds_toArray, List.set_cons_zero, List.set_cons_succ]
          refine' wpAnyH_take (i := 8) (oi := _) (v := ?v8) rfl ?hs8 ?hf8 ?hr8 ?hQ8 (Or.inl ⟨?hw8, ?hy8⟩) hHeld ?rest8
          case hs8 => kernel_rfl
          case hf8 => kernel_rfl
          case hr8 => kernel_rfl
          case hQ8 => exact fun _ _ _ h => h
          case hw8 => kernel_rfl
          case hy8 => (intro w' hw'; go_simp; try with_reducible rfl)
          (try change wpAnyH _ _ _ _ _ _ _ (Act.put _ (some 26) _) _)
          try simp only [Act.put, List.setIfInBounds_toArray, List.set_cons_zero, List.set_cons_succ]
          refine' wpAnyH_take (i := 9) (oi := _) (v := undef) rfl ?hs9 ?hf9 ?hr9 ?hQ9 (Or.inr ⟨?hw9, rfl⟩) hHeld ?rest9
          case hs9 => kernel_rfl
          case hf9 => kernel_rfl
          case hr9 => kernel_rfl
          case hQ9 => exact fun _ _ _ h => h
          case hw9 => kernel_rfl
          (try change wpAnyH _ _ _ _ _ _ _ (Act.put _ (some 27) _) _)
          try simp only [Act.put, List.setIfInBounds_toArray, List.set_cons_zero, List.set_cons_succ]
          refine' wpAnyH_take (i := 10) (oi := _) (v := undef) rfl ?hs10 ?hf10 ?hr10 ?hQ10 (Or.inr ⟨?hw10, rfl⟩) hHeld ?rest10
          case hs10 => kernel_rfl
          case hf10 => kernel_rfl
          case hr10 => kernel_rfl
          case hQ10 => exact fun _ _ _ h => h
          case hw10 => kernel_rfl
          (try change wpAnyH _ _ _ _ _ _ _ (Act.put _ (some 28) _) _)
          try simp only [Act.put, List.setIfInBounds_toArray, List.set_cons_zero, List.set_cons_succ]
          refine' wpAnyH_take (i := 11) (oi := _) (v := undef) rfl ?hs11 ?hf11 ?hr11 ?hQ11 (Or.inr ⟨?hw11, rfl⟩) hHeld ?rest11
          case hs11 => kernel_rfl
          case hf11 => kernel_rfl
          case hr11 => kernel_rfl
          case hQ11 => exact fun _ _ _ h => h
          case hw11 => kernel_rfl
          (try change wpAnyH _ _ _ _ _ _ _ (Act.put _ (some 29) _) _)
          try simp only [Act.put, List.setIfInBounds_toArray, List.set_cons_zero, List.set_cons_succ]
          refine' wpAnyH_take (i := 12) (oi := _) (v := undef) rfl ?hs12 ?hf12 ?hr12 ?hQ12 (Or.inr ⟨?hw12, rfl⟩) hHeld ?rest12
          case hs12 => kernel_rfl
          case hf12 => kernel_rfl
          case hr12 => kernel_rfl
          case hQ12 => exact fun _ _ _ h => h
          case hw12 => kernel_rfl
          (try change wpAnyH _ _ _ _ _ _ _ (Act.put _ (some 30) _) _)
          try simp only [Act.put, List.setIfInBounds_toArray, List.set_cons_zero, List.set_cons_succ]
          refine' wpAnyH_take (i := 13) (oi := _) (v := undef) rfl ?hs13 ?hf13 ?hr13 ?hQ13 (Or.inr ⟨?hw13, rfl⟩) hHeld ?rest13
          case hs13 => kernel_rfl
          case hf13 => kernel_rfl
          case hr13 => kernel_rfl
          case hQ13 => exact fun _ _ _ h => h
          case hw13 => kernel_rfl
          (try change wpAnyH _ _ _ _ _ _ _ (Act.put _ (some 31) _) _)
          try simp only [Act.put, List.setIfInBounds_toArray, List.set_cons_zero, List.set_cons_succ]
          refine' wpAnyH_take (i := 14) (oi := _) (v := undef) rfl ?hs14 ?hf14 ?hr14 ?hQ14 (Or.inr ⟨?hw14, rfl⟩) hHeld ?rest14
          case hs14 => kernel_rfl
          case hf14 => kernel_rfl
          case hr14 => kernel_rfl
          case hQ14 => exact fun _ _ _ h => h
          case hw14 => kernel_rfl
          (try change wpAnyH _ _ _ _ _ _ _ (Act.put _ (some 32) _) _)
          try simp only [Act.put, List.setIfInBounds_toArray, List.set_cons_zero, List.set_cons_succ]
          refine' wpAnyH_take (i := 15) (oi := _) (v := undef) rfl ?hs15 ?hf15 ?hr15 ?hQ15 (Or.inr ⟨?hw15, rfl⟩) hHeld ?rest15
          case hs15 => kernel_rfl
          case hf15 => kernel_rfl
          case hr15 => kernel_rfl
          case hQ15 => exact fun _ _ _ h => h
          case hw15 => kernel_rfl
          (try change wpAnyH _ _ _ _ _ _ _ (Act.put _ (some 33) _) _)
          try simp only [Act.put, List.setIfInBounds_toArray, List.set_cons_zero, List.set_cons_succ]
          refine' wpAnyH_take (i := 16) (oi := _) (v := undef) rfl ?hs16 ?hf16 ?hr16 ?hQ16 (Or.inr ⟨?hw16, rfl⟩) hHeld ?rest16
          case hs16 => kernel_rfl
          case hf16 => kernel_rfl
          case hr16 => kernel_rfl
          case hQ16 => exact fun _ _ _ h => h
          case hw16 => kernel_rfl
          (try change wpAnyH _ _ _ _ _ _ _ (Act.put _ (some 34) _) _)
          try simp only [Act.put, List.setIfInBounds_toArray, List.set_cons_zero, List.set_cons_succ]
          refine' wpAnyH_take (i := 17) (oi := _) (v := undef) rfl ?hs17 ?hf17 ?hr17 ?hQ17 (Or.inr ⟨?hw17, rfl⟩) hHeld ?rest17
          case hs17 => kernel_rfl
          case hf17 => kernel_rfl
          case hr17 => kernel_rfl
          case hQ17 => exact fun _ _ _ h => h
          case hw17 => kernel_rfl
          (try change wpAnyH _ _ _ _ _ _ _ (Act.put _ (some 35) _) _)
          try simp only [Act.put, List.setIfInBounds_toArray, List.set_cons_zero, List.set_cons_succ]
          refine' wpAnyH_take (i := 18) (oi := _) (v := undef) rfl ?hs18 ?hf18 ?hr18 ?hQ18 (Or.inr ⟨?hw18, rfl⟩) hHeld ?rest18
          case hs18 => kernel_rfl
          case hf18 => kernel_rfl
          case hr18 => kernel_rfl
          case hQ18 => exact fun _ _ _ h => h
          case hw18 => kernel_rfl
          (try change wpAnyH _ _ _ _ _ _ _ (Act.put _ (some 36) _) _)
          try simp only [Act.put, List.setIfInBounds_toArray, List.set_cons_zero, List.set_cons_succ]
          refine' wpAnyH_take (i := 19) (oi := _) (v := undef) rfl ?hs19 ?hf19 ?hr19 ?hQ19 (Or.inr ⟨?hw19, rfl⟩) hHeld ?rest19
          case hs19 => kernel_rfl
          case hf19 => kernel_rfl
          case hr19 => kernel_rfl
          case hQ19 => exact fun _ _ _ h => h
          case hw19 => kernel_rfl
          (try change wpAnyH _ _ _ _ _ _ _ (Act.put _ (some 37) _) _)
          try simp only [Act.put, List.setIfInBounds_toArray, List.set_cons_zero, List.set_cons_succ]
          refine' wpAnyH_take (i := 20) (oi := _) (v := undef) rfl ?hs20 ?hf20 ?hr20 ?hQ20 (Or.inr ⟨?hw20, rfl⟩) hHeld ?rest20
          case hs20 => kernel_rfl
          case hf20 => kernel_rfl
          case hr20 => kernel_rfl
          case hQ20 => exact fun _ _ _ h => h
          case hw20 => kernel_rfl
          (try change wpAnyH _ _ _ _ _ _ _ (Act.put _ (some 38) _) _)
          try simp only [Act.put, List.setIfInBounds_toArray, List.set_cons_zero, List.set_cons_succ]
          refine' wpAnyH_take (i := 21) (oi := _) (v := undef) rfl ?hs21 ?hf21 ?hr21 ?hQ21 (Or.inr ⟨?hw21, rfl⟩) hHeld ?rest21
          case hs21 => kernel_rfl
          case hf21 => kernel_rfl
          case hr21 => kernel_rfl
          case hQ21 => exact fun _ _ _ h => h
          case hw21 => kernel_rfl
          (try change wpAnyH _ _ _ _ _ _ _ (Act.put _ (some 39) _) _)
          try simp only [Act.put, List.setIfInBounds_toArray, List.set_cons_zero, List.set_cons_succ]
          refine' wpAnyH_take (i := 22) (oi := _) (v := undef) rfl ?hs22 ?hf22 ?hr22 ?hQ22 (Or.inr ⟨?hw22, rfl⟩) hHeld ?rest22
          case hs22 => kernel_rfl
          case hf22 => kernel_rfl
          case hr22 => kernel_rfl
          case hQ22 => exact fun _ _ _ h => h
          case hw22 => kernel_rfl
          (try change wpAnyH _ _ _ _ _ _ _ (Act.put _ (some 40) _) _)
          try simp only [Act.put, List.setIfInBounds_toArray, List.set_cons_zero, List.set_cons_succ]
          refine' wpAnyH_take (i := 23) (oi := _) (v := undef) rfl ?hs23 ?hf23 ?hr23 ?hQ23 (Or.inr ⟨?hw23, rfl⟩) hHeld ?rest23
          case hs23 => kernel_rfl
          case hf23 => kernel_rfl
          case hr23 => kernel_rfl
          case hQ23 => exact fun _ _ _ h => h
          case hw23 => kernel_rfl
          (try change wpAnyH _ _ _ _ _ _ _ (Act.put _ (some 41) _) _)
          try simp only [Act.put, List.setIfInBounds_toArray, List.set_cons_zero, List.set_cons_succ]
          refine' wpAnyH_take (i := 24) (oi := _) (v := undef) rfl ?hs24 ?hf24 ?hr24 ?hQ24 (Or.inr ⟨?hw24, rfl⟩) hHeld ?rest24
          case hs24 => kernel_rfl
          case hf24 => kernel_rfl
          case hr24 => kernel_rfl
          case hQ24 => exact fun _ _ _ h => h
          case hw24 => kernel_rfl
          (try change wpAnyH _ _ _ _ _ _ _ (Act.put _ (some 42) _) _)
          try simp only [Act.put, List.setIfInBounds_toArray, List.set_cons_zero, List.set_cons_succ]
          refine' wpAnyH_take (i := 25) (oi := _) (v := undef) rfl ?hs25 ?hf25 ?hr25 ?hQ25 (Or.inr ⟨?hw25, rfl⟩) hHeld ?rest25
          case hs25 => kernel_rfl
          case hf25 => kernel_rfl
          case hr25 => kernel_rfl
          case hQ25 => exact fun _ _ _ h => h
          case hw25 => kernel_rfl
          (try change wpAnyH _ _ _ _ _ _ _ (Act.put _ (some 43) _) _)
          try simp only [Act.put, List.setIfInBounds_toArray, List.set_cons_zero, List.set_cons_succ]
          refine' wpAnyH_take (i := 26) (oi := _) (v := ?v26) rfl ?hs26 ?hf26 ?hr26 ?hQ26 (Or.inl ⟨?hw26, ?hy26⟩) hHeld ?rest26
          case hs26 => kernel_rfl
          case hf26 => kernel_rfl
          case hr26 => kernel_rfl
          case hQ26 => exact fun _ _ _ h => h
          case hw26 => kernel_rfl
          case hy26 => (intro w' hw'; go_simp; try with_reducible rfl)
          (try change wpAnyH _ _ _ _ _ _ _ (Act.put _ (some 44) _) _)
          try simp only [Act.put, List.setIfInBounds_toArray, List.set_cons_zero, List.set_cons_succ]
          refine wpAnyH_done ?hdone27 ?hq27 _
          case hdone27 => kernel_rfl
          go_wp2_with fail
          go_meet
          exact ⟨by rw [← HP.out]; first | rfl | simp, hHeld⟩
        · by_cases hq0 : q < 0
          · have HP2 : Hid (p = true) := by unfold Hid; rw [← HP.out, decide_eq_true hq0]; rfl
            have hq1 : decide (q < 0) = true := decide_eq_true hq0
            clear hq0
            refine' wpAnyH_take (i := 0) (oi := _) (v := ?v28) rfl ?hs28 ?hf28 ?hr28 ?hQ28 (Or.inl ⟨?hw28, ?hy28⟩) hHeld ?rest28
            case hs28 => kernel_rfl
            case hf28 => kernel_rfl
            case hr28 => kernel_rfl
            case hQ28 => exact fun _ _ _ h => h
            case hw28 => kernel_rfl
            case hy28 => (intro w' hw'; go_simp; try with_reducible rfl)
            (try change wpAnyH _ _ _ _ _ _ _ (Act.put _ (some 18) _) _)
            try simp only [Act.put, List.setIfInBounds_toArray, List.set_cons_zero, List.set_cons_succ]
            refine' wpAnyH_take (i := 1) (oi := _) (v := ?v29) rfl ?hs29 ?hf29 ?hr29 ?hQ29 (Or.inl ⟨?hw29, ?hy29⟩) hHeld ?rest29
            case hs29 => kernel_rfl
            case hf29 => kernel_rfl
            case hr29 => kernel_rfl
            case hQ29 => exact fun _ _ _ h => h
            case hw29 => kernel_rfl
            case hy29 => (intro w' hw'; have c2' := HB2.out _ hw'; have c4' := HC2.out _ hw'; go_simp; try with_reducible rfl)
            (try change wpAnyH _ _ _ _ _ _ _ (Act.put _ (some 19) _) _)
            try simp only [Act.put, List.setIfInBounds_toArray, List.set_cons_zero, List.set_cons_succ]
            refine' wpAnyH_take (i := 2) (oi := _) (v := ?v30) rfl ?hs30 ?hf30 ?hr30 ?hQ30 (Or.inl ⟨?hw30, ?hy30⟩) hHeld ?rest30
            case hs30 => kernel_rfl
            case hf30 => kernel_rfl
            case hr30 => kernel_rfl
            case hQ30 => exact fun _ _ _ h => h
            case hw30 => kernel_rfl
            case hy30 => (intro w' hw'; go_simp; try with_reducible rfl)
            (try change wpAnyH _ _ _ _ _ _ _ (Act.put _ (some 20) _) _)
            try simp only [Act.put, List.setIfInBounds_toArray, List.set_cons_zero, List.set_cons_succ]
            refine' wpAnyH_take (i := 3) (oi := _) (v := ?v31) rfl ?hs31 ?hf31 ?hr31 ?hQ31 (Or.inl ⟨?hw31, ?hy31⟩) hHeld ?rest31
            case hs31 => kernel_rfl
            case hf31 => kernel_rfl
            case hr31 => kernel_rfl
            case hQ31 => exact fun _ _ _ h => h
            case hw31 => kernel_rfl
            case hy31 => (intro w' hw'; go_simp; try with_reducible rfl)
            (try change wpAnyH _ _ _ _ _ _ _ (Act.put _ (some 21) _) _)
            try simp only [Act.put, List.setIfInBounds_toArray, List.set_cons_zero, List.set_cons_succ]
            refine' wpAnyH_take (i := 4) (oi := _) (v := ?v32) rfl ?hs32 ?hf32 ?hr32 ?hQ32 (Or.inl ⟨?hw32, ?hy32⟩) hHeld ?rest32
            case hs32 => kernel_rfl
            case hf32 => kernel_rfl
            case hr32 => kernel_rfl
            case hQ32 => exact fun _ _ _ h => h
            case hw32 => kernel_rfl
            case hy32 => (intro w' hw'; have c2' := HB2.out _ hw'; have c4' := HC2.out _ hw'; go_simp; try with_reducible rfl)
            (try change wpAnyH _ _ _ _ _ _ _ (Act.put _ (some 22) _) _)
            try simp only [Act.put, List.setIfInBounds_toArray, List.set_cons_zero, List.set_cons_succ]
            refine' wpAnyH_take (i := 6) (oi := _) (v := ?v33) rfl ?hs33 ?hf33 ?hr33 ?hQ33 (Or.inl ⟨?hw33, ?hy33⟩) hHeld ?rest33
            case hs33 => kernel_rfl
            case hf33 => kernel_rfl
            case hr33 => kernel_rfl
            case hQ33 => exact fun _ _ _ h => h
            case hw33 => kernel_rfl
            case hy33 => (intro w' hw'; go_simp; try with_reducible rfl)
            (try change wpAnyH _ _ _ _ _ _ _ (Act.put _ (some 24) _) _)
            try simp only [Act.put, List.setIfInBounds_toArray, List.set_cons_zero, List.set_cons_succ]
            refine wpAnyH_ready (rs := [5]) (by kernel_rfl) (by simp) ?_
            refine AllReadyH.cons rfl (fun K hK => ?_) AllReadyH.nil
            go_simp
            go_at_call 61; refine (HIN.out _ hHeld).mono ?_; rintro e wa ⟨rfl, hba⟩; have hbe := below_step hHeld hba; clear hba
            (try go_wp2_with fail)
            refine hK.out _ _ hbe (fun hHeld => ?_)
            clear hK K
            try simp only [Act.put, List.setIfInBounds_toArray, List.set_cons_zero, List.set_cons_succ]
            refine' wpAnyH_take (i := 7) (oi := _) (v := ?v34) rfl ?hs34 ?hf34 ?hr34 ?hQ34 (Or.inl ⟨?hw34, ?hy34⟩) hHeld ?rest34
            case hs34 => kernel_rfl
            case hf34 => kernel_rfl
            case hr34 => kernel_rfl
            case hQ34 => exact fun _ _ _ h => h
            case hw34 => kernel_rfl
            case hy34 => (intro w' hw'; go_simp; try with_reducible rfl)
            (try change wpAnyH _ _ _ _ _ _ _ (Act.put _ (some 25) _) _)
            try simp only [Act.put, List.setIfInBounds_toArray, List.set_cons_zero, List.set_cons_succ]
            refine' wpAnyH_take (i := 8) (oi := _) (v := ?v35) rfl ?hs35 ?hf35 ?hr35 ?hQ35 (Or.inl ⟨?hw35, ?hy35⟩) hHeld ?rest35
            case hs35 => kernel_rfl
            case hf35 => kernel_rfl
            case hr35 => kernel_rfl
            case hQ35 => exact fun _ _ _ h => h
            case hw35 => kernel_rfl
            case hy35 => (intro w' hw'; go_simp; try with_reducible rfl)
            (try change wpAnyH _ _ _ _ _ _ _ (Act.put _ (some 26) _) _)
            try simp only [Act.put, List.setIfInBounds_toArray, List.set_cons_zero, List.set_cons_succ]
            refine' wpAnyH_take (i := 9) (oi := _) (v := ?v36) rfl ?hs36 ?hf36 ?hr36 ?hQ36 (Or.inl ⟨?hw36, ?hy36⟩) hHeld ?rest36
            case hs36 => kernel_rfl
            case hf36 => kernel_rfl
            case hr36 => kernel_rfl
            case hQ36 => exact fun _ _ _ h => h
            case hw36 => kernel_rfl
            case hy36 => (intro w' hw'; go_simp; try with_reducible rfl)
            (try change wpAnyH _ _ _ _ _ _ _ (Act.put _ (some 27) _) _)
            try simp only [Act.put, List.setIfInBounds_toArray, List.set_cons_zero, List.set_cons_succ]
            refine' wpAnyH_take (i := 10) (oi := _) (v := ?v37) rfl ?hs37 ?hf37 ?hr37 ?hQ37 (Or.inl ⟨?hw37, ?hy37⟩) hHeld ?rest37
            case hs37 => kernel_rfl
            case hf37 => kernel_rfl
            case hr37 => kernel_rfl
            case hQ37 => exact fun _ _ _ h => h
            case hw37 => kernel_rfl
            case hy37 => (intro w' hw'; go_simp; try with_reducible rfl)
            (try change wpAnyH _ _ _ _ _ _ _ (Act.put _ (some 28) _) _)
            try simp only [Act.put, List.setIfInBounds_toArray, List.set_cons_zero, List.set_cons_succ]
            refine' wpAnyH_take (i := 11) (oi := _) (v := ?v38) rfl ?hs38 ?hf38 ?hr38 ?hQ38 (Or.inl ⟨?hw38, ?hy38⟩) hHeld ?rest38
            case hs38 => kernel_rfl
            case hf38 => kernel_rfl
            case hr38 => kernel_rfl
            case hQ38 => exact fun _ _ _ h => h
            case hw38 => kernel_rfl
            case hy38 => (intro w' hw'; go_simp; try with_reducible rfl)
            (try change wpAnyH _ _ _ _ _ _ _ (Act.put _ (some 29) _) _)
            try simp only [Act.put, List.setIfInBounds_toArray, List.set_cons_zero, List.set_cons_succ]
            refine' wpAnyH_take (i := 12) (oi := _) (v := undef) rfl ?hs39 ?hf39 ?hr39 ?hQ39 (Or.inr ⟨?hw39, rfl⟩) hHeld ?rest39
            case hs39 => kernel_rfl
            case hf39 => kernel_rfl
            case hr39 => kernel_rfl
            case hQ39 => exact fun _ _ _ h => h
            case hw39 => kernel_rfl
            (try change wpAnyH _ _ _ _ _ _ _ (Act.put _ (some 30) _) _)
            try simp only [Act.put, List.setIfInBounds_toArray, List.set_cons_zero, List.set_cons_succ]
            refine' wpAnyH_take (i := 13) (oi := _) (v := undef) rfl ?hs40 ?hf40 ?hr40 ?hQ40 (Or.inr ⟨?hw40, rfl⟩) hHeld ?rest40
            case hs40 => kernel_rfl
            case hf40 => kernel_rfl
            case hr40 => kernel_rfl
            case hQ40 => exact fun _ _ _ h => h
            case hw40 => kernel_rfl
            (try change wpAnyH _ _ _ _ _ _ _ (Act.put _ (some 31) _) _)
            try simp only [Act.put, List.setIfInBounds_toArray, List.set_cons_zero, List.set_cons_succ]
            refine' wpAnyH_take (i := 14) (oi := _) (v := undef) rfl ?hs41 ?hf41 ?hr41 ?hQ41 (Or.inr ⟨?hw41, rfl⟩) hHeld ?rest41
            case hs41 => kernel_rfl
            case hf41 => kernel_rfl
            case hr41 => kernel_rfl
            case hQ41 => exact fun _ _ _ h => h
            case hw41 => kernel_rfl
            (try change wpAnyH _ _ _ _ _ _ _ (Act.put _ (some 32) _) _)
            try simp only [Act.put, List.setIfInBounds_toArray, List.set_cons_zero, List.set_cons_succ]
            refine' wpAnyH_take (i := 15) (oi := _) (v := undef) rfl ?hs42 ?hf42 ?hr42 ?hQ42 (Or.inr ⟨?hw42, rfl⟩) hHeld ?rest42
            case hs42 => kernel_rfl
            case hf42 => kernel_rfl
            case hr42 => kernel_rfl
            case hQ42 => exact fun _ _ _ h => h
            case hw42 => kernel_rfl
            (try change wpAnyH _ _ _ _ _ _ _ (Act.put _ (some 33) _) _)
            try simp only [Act.put, List.setIfInBounds_toArray, List.set_cons_zero, List.set_cons_succ]
            refine' wpAnyH_take (i := 16) (oi := _) (v := undef) rfl ?hs43 ?hf43 ?hr43 ?hQ43 (Or.inr ⟨?hw43, rfl⟩) hHeld ?rest43
            case hs43 => kernel_rfl
            case hf43 => kernel_rfl
            case hr43 => kernel_rfl
            case hQ43 => exact fun _ _ _ h => h
            case hw43 => kernel_rfl
            (try change wpAnyH _ _ _ _ _ _ _ (Act.put _ (some 34) _) _)
            try simp only [Act.put, List.setIfInBounds_toArray, List.set_cons_zero, List.set_cons_succ]
            refine' wpAnyH_take (i := 17) (oi := _) (v := undef) rfl ?hs44 ?hf44 ?hr44 ?hQ44 (Or.inr ⟨?hw44, rfl⟩) hHeld ?rest44
            case hs44 => kernel_rfl
            case hf44 => kernel_rfl
            case hr44 => kernel_rfl
            case hQ44 => exact fun _ _ _ h => h
            case hw44 => kernel_rfl
            (try change wpAnyH _ _ _ _ _ _ _ (Act.put _ (some 35) _) _)
            try simp only [Act.put, List.setIfInBounds_toArray, List.set_cons_zero, List.set_cons_succ]
            refine' wpAnyH_take (i := 18) (oi := _) (v := undef) rfl ?hs45 ?hf45 ?hr45 ?hQ45 (Or.inr ⟨?hw45, rfl⟩) hHeld ?rest45
            case hs45 => kernel_rfl
            case hf45 => kernel_rfl
            case hr45 => kernel_rfl
            case hQ45 => exact fun _ _ _ h => h
            case hw45 => kernel_rfl
            (try change wpAnyH _ _ _ _ _ _ _ (Act.put _ (some 36) _) _)
            try simp only [Act.put, List.setIfInBounds_toArray, List.set_cons_zero, List.set_cons_succ]
            refine' wpAnyH_take (i := 19) (oi := _) (v := undef) rfl ?hs46 ?hf46 ?hr46 ?hQ46 (Or.inr ⟨?hw46, rfl⟩) hHeld ?rest46
            case hs46 => kernel_rfl
            case hf46 => kernel_rfl
            case hr46 => kernel_rfl
            case hQ46 => exact fun _ _ _ h => h
            case hw46 => kernel_rfl
            (try change wpAnyH _ _ _ _ _ _ _ (Act.put _ (some 37) _) _)
            try simp only [Act.put, List.setIfInBounds_toArray, List.set_cons_zero, List.set_cons_succ]
            refine' wpAnyH_take (i := 20) (oi := _) (v := undef) rfl ?hs47 ?hf47 ?hr47 ?hQ47 (Or.inr ⟨?hw47, rfl⟩) hHeld ?rest47
            case hs47 => kernel_rfl
            case hf47 => kernel_rfl
            case hr47 => kernel_rfl
            case hQ47 => exact fun _ _ _ h => h
            case hw47 => kernel_rfl
            (try change wpAnyH _ _ _ _ _ _ _ (Act.put _ (some 38) _) _)
            try simp only [Act.put, List.setIfInBounds_toArray, List.set_cons_zero, List.set_cons_succ]
            refine' wpAnyH_take (i := 21) (oi := _) (v := undef) rfl ?hs48 ?hf48 ?hr48 ?hQ48 (Or.inr ⟨?hw48, rfl⟩) hHeld ?rest48
            case hs48 => kernel_rfl
            case hf48 => kernel_rfl
            case hr48 => kernel_rfl
            case hQ48 => exact fun _ _ _ h => h
            case hw48 => kernel_rfl
            (try change wpAnyH _ _ _ _ _ _ _ (Act.put _ (some 39) _) _)
            try simp only [Act.put, List.setIfInBounds_toArray, List.set_cons_zero, List.set_cons_succ]
            refine' wpAnyH_take (i := 22) (oi := _) (v := undef) rfl ?hs49 ?hf49 ?hr49 ?hQ49 (Or.inr ⟨?hw49, rfl⟩) hHeld ?rest49
            case hs49 => kernel_rfl
            case hf49 => kernel_rfl
            case hr49 => kernel_rfl
            case hQ49 => exact fun _ _ _ h => h
            case hw49 => kernel_rfl
            (try change wpAnyH _ _ _ _ _ _ _ (Act.put _ (some 40) _) _)
            try simp only [Act.put, List.setIfInBounds_toArray, List.set_cons_zero, List.set_cons_succ]
            refine' wpAnyH_take (i := 23) (oi := _) (v := undef) rfl ?hs50 ?hf50 ?hr50 ?hQ50 (Or.inr ⟨?hw50, rfl⟩) hHeld ?rest50
            case hs50 => kernel_rfl
            case hf50 => kernel_rfl
            case hr50 => kernel_rfl
            case hQ50 => exact fun _ _ _ h => h
            case hw50 => kernel_rfl
            (try change wpAnyH _ _ _ _ _ _ _ (Act.put _ (some 41) _) _)
            try simp only [Act.put, List.setIfInBounds_toArray, List.set_cons_zero, List.set_cons_succ]
            refine' wpAnyH_take (i := 24) (oi := _) (v := undef) rfl ?hs51 ?hf51 ?hr51 ?hQ51 (Or.inr ⟨?hw51, rfl⟩) hHeld ?rest51
            case hs51 => kernel_rfl
            case hf51 => kernel_rfl
            case hr51 => kernel_rfl
            case hQ51 => exact fun _ _ _ h => h
            case hw51 => kernel_rfl
            (try change wpAnyH _ _ _ _ _ _ _ (Act.put _ (some 42) _) _)
            try simp only [Act.put, List.setIfInBounds_toArray, List.set_cons_zero, List.set_cons_succ]
            refine' wpAnyH_take (i := 25) (oi := _) (v := ?v52) rfl ?hs52 ?hf52 ?hr52 ?hQ52 (Or.inl ⟨?hw52, ?hy52⟩) hHeld ?rest52
            case hs52 => kernel_rfl
            case hf52 => kernel_rfl
            case hr52 => kernel_rfl
            case hQ52 => exact fun _ _ _ h => h
            case hw52 => kernel_rfl
            case hy52 => (intro w' hw'; go_simp; try with_reducible rfl)
            (try change wpAnyH _ _ _ _ _ _ _ (Act.put _ (some 43) _) _)
            try simp only [Act.put, List.setIfInBounds_toArray, List.set_cons_zero, List.set_cons_succ]
            refine' wpAnyH_take (i := 26) (oi := _) (v := ?v53) rfl ?hs53 ?hf53 ?hr53 ?hQ53 (Or.inl ⟨?hw53, ?hy53⟩) hHeld ?rest53
            case hs53 => kernel_rfl
            case hf53 => kernel_rfl
            case hr53 => kernel_rfl
            case hQ53 => exact fun _ _ _ h => h
            case hw53 => kernel_rfl
            case hy53 => (intro w' hw'; go_simp; try with_reducible rfl)
            (try change wpAnyH _ _ _ _ _ _ _ (Act.put _ (some 44) _) _)
            try simp only [Act.put, List.setIfInBounds_toArray, List.set_cons_zero, List.set_cons_succ]
            refine wpAnyH_done ?hdone54 ?hq54 _
            case hdone54 => kernel_rfl
            go_wp2_with fail
            go_meet
            exact ⟨by rw [HP2.out], hHeld⟩
          · obtain ⟨j, rfl⟩ : ∃ j : Nat, q = (j : Int) := ⟨q.toNat, by omega⟩
            obtain ⟨c', hc'⟩ := HX2.out j (by omega)
            have HP2 : Hid (p = decide ((edits c.Links : Int) < (edits c'.Links : Int))) := by unfold Hid; rw [← HP.out, decide_eq_false hq0, Int.toNat_natCast, HED.out j c' hc']; rfl
            have HL' := Lib.hid (HZ4.out j c' hc')
            obtain ⟨g3, o3, xs3, G3, hge, -, hr3', -, hc3⟩ := (HV.out.rows.kept HB3.out).get hc'
            cases hge
            obtain ⟨v3, rfl, q3⟩ := rCandidate_rd hr3'
            rw [rCandidate_size] at hc3
            have d3 := hc3 0 _ rfl
            simp only [Nat.add_zero, Nat.mul_one] at d3
            have HC3 : Hid (∀ W : World, Below w3.heap.size w3 W → W.cell? ⟨g2, o2 + j, none⟩ = some v3) := fun W hW => cell_kept hW d3
            have HQ3 := Lib.hid q3
            have HIF : Hid (∀ W, Below w3.heap.size w3 W → Calls Tryz.prog 92 #[.agg #[v3]] W fun e w' => e = .returned (.int .i64 (edits c'.Links : Nat)) ∧ Below W.heap.size W w') := fun W hW => HSE.out c' v3 G3 W HL'.out (HQ3.out.kept hW)
            have hjr : (j : Int) < (x.Rows.length : Int) := by omega
            have hq1 : decide ((j : Int) < 0) = false := decide_eq_false (by omega)
            clear hc' hr3' hc3 d3 q3 hq0
            refine' wpAnyH_take (i := 0) (oi := _) (v := ?v55) rfl ?hs55 ?hf55 ?hr55 ?hQ55 (Or.inl ⟨?hw55, ?hy55⟩) hHeld ?rest55
            case hs55 => kernel_rfl
            case hf55 => kernel_rfl
            case hr55 => kernel_rfl
            case hQ55 => exact fun _ _ _ h => h
            case hw55 => kernel_rfl
            case hy55 => (intro w' hw'; go_simp; try with_reducible rfl)
            (try change wpAnyH _ _ _ _ _ _ _ (Act.put _ (some 18) _) _)
            try simp only [Act.put, List.setIfInBounds_toArray, List.set_cons_zero, List.set_cons_succ]
            refine' wpAnyH_take (i := 1) (oi := _) (v := ?v56) rfl ?hs56 ?hf56 ?hr56 ?hQ56 (Or.inl ⟨?hw56, ?hy56⟩) hHeld ?rest56
            case hs56 => kernel_rfl
            case hf56 => kernel_rfl
            case hr56 => kernel_rfl
            case hQ56 => exact fun _ _ _ h => h
            case hw56 => kernel_rfl
            case hy56 => (intro w' hw'; have c2' := HB2.out _ hw'; have c4' := HC2.out _ hw'; have c5' := HC3.out _ hw'; go_simp; try with_reducible rfl)
            (try change wpAnyH _ _ _ _ _ _ _ (Act.put _ (some 19) _) _)
            try simp only [Act.put, List.setIfInBounds_toArray, List.set_cons_zero, List.set_cons_succ]
            refine' wpAnyH_take (i := 2) (oi := _) (v := ?v57) rfl ?hs57 ?hf57 ?hr57 ?hQ57 (Or.inl ⟨?hw57, ?hy57⟩) hHeld ?rest57
            case hs57 => kernel_rfl
            case hf57 => kernel_rfl
            case hr57 => kernel_rfl
            case hQ57 => exact fun _ _ _ h => h
            case hw57 => kernel_rfl
            case hy57 => (intro w' hw'; go_simp; try with_reducible rfl)
            (try change wpAnyH _ _ _ _ _ _ _ (Act.put _ (some 20) _) _)
            try simp only [Act.put, List.setIfInBounds_toArray, List.set_cons_zero, List.set_cons_succ]
            refine' wpAnyH_take (i := 3) (oi := _) (v := ?v58) rfl ?hs58 ?hf58 ?hr58 ?hQ58 (Or.inl ⟨?hw58, ?hy58⟩) hHeld ?rest58
            case hs58 => kernel_rfl
            case hf58 => kernel_rfl
            case hr58 => kernel_rfl
            case hQ58 => exact fun _ _ _ h => h
            case hw58 => kernel_rfl
            case hy58 => (intro w' hw'; go_simp; try with_reducible rfl)
            (try change wpAnyH _ _ _ _ _ _ _ (Act.put _ (some 21) _) _)
            try simp only [Act.put, List.setIfInBounds_toArray, List.set_cons_zero, List.set_cons_succ]
            refine' wpAnyH_take (i := 4) (oi := _) (v := ?v59) rfl ?hs59 ?hf59 ?hr59 ?hQ59 (Or.inl ⟨?hw59, ?hy59⟩) hHeld ?rest59
            case hs59 => kernel_rfl
            case hf59 => kernel_rfl
            case hr59 => kernel_rfl
            case hQ59 => exact fun _ _ _ h => h
            case hw59 => kernel_rfl
            case hy59 => (intro w' hw'; have c2' := HB2.out _ hw'; have c4' := HC2.out _ hw'; have c5' := HC3.out _ hw'; go_simp; try with_reducible rfl)
            (try change wpAnyH _ _ _ _ _ _ _ (Act.put _ (some 22) _) _)
            try simp only [Act.put, List.setIfInBounds_toArray, List.set_cons_zero, List.set_cons_succ]
            refine' wpAnyH_take (i := 6) (oi := _) (v := ?v60) rfl ?hs60 ?hf60 ?hr60 ?hQ60 (Or.inl ⟨?hw60, ?hy60⟩) hHeld ?rest60
            case hs60 => kernel_rfl
            case hf60 => kernel_rfl
            case hr60 => kernel_rfl
            case hQ60 => exact fun _ _ _ h => h
            case hw60 => kernel_rfl
            case hy60 => (intro w' hw'; go_simp; try with_reducible rfl)
            (try change wpAnyH _ _ _ _ _ _ _ (Act.put _ (some 24) _) _)
            try simp only [Act.put, List.setIfInBounds_toArray, List.set_cons_zero, List.set_cons_succ]
            refine wpAnyH_ready (rs := [5]) (by kernel_rfl) (by simp) ?_
            refine AllReadyH.cons rfl (fun K hK => ?_) AllReadyH.nil
            go_simp
            go_at_call 61; refine (HIN.out _ hHeld).mono ?_; rintro e wa ⟨rfl, hba⟩; have hbe := below_step hHeld hba; clear hba
            (try go_wp2_with fail)
            refine hK.out _ _ hbe (fun hHeld => ?_)
            clear hK K
            try simp only [Act.put, List.setIfInBounds_toArray, List.set_cons_zero, List.set_cons_succ]
            refine' wpAnyH_take (i := 7) (oi := _) (v := ?v61) rfl ?hs61 ?hf61 ?hr61 ?hQ61 (Or.inl ⟨?hw61, ?hy61⟩) hHeld ?rest61
            case hs61 => kernel_rfl
            case hf61 => kernel_rfl
            case hr61 => kernel_rfl
            case hQ61 => exact fun _ _ _ h => h
            case hw61 => kernel_rfl
            case hy61 => (intro w' hw'; go_simp; try with_reducible rfl)
            (try change wpAnyH _ _ _ _ _ _ _ (Act.put _ (some 25) _) _)
            try simp only [Act.put, List.setIfInBounds_toArray, List.set_cons_zero, List.set_cons_succ]
            refine' wpAnyH_take (i := 8) (oi := _) (v := ?v62) rfl ?hs62 ?hf62 ?hr62 ?hQ62 (Or.inl ⟨?hw62, ?hy62⟩) hHeld ?rest62
            case hs62 => kernel_rfl
            case hf62 => kernel_rfl
            case hr62 => kernel_rfl
            case hQ62 => exact fun _ _ _ h => h
            case hw62 => kernel_rfl
            case hy62 => (intro w' hw'; go_simp; try with_reducible rfl)
            (try change wpAnyH _ _ _ _ _ _ _ (Act.put _ (some 26) _) _)
            try simp only [Act.put, List.setIfInBounds_toArray, List.set_cons_zero, List.set_cons_succ]
            refine' wpAnyH_take (i := 9) (oi := _) (v := ?v63) rfl ?hs63 ?hf63 ?hr63 ?hQ63 (Or.inl ⟨?hw63, ?hy63⟩) hHeld ?rest63
            case hs63 => kernel_rfl
            case hf63 => kernel_rfl
            case hr63 => kernel_rfl
            case hQ63 => exact fun _ _ _ h => h
            case hw63 => kernel_rfl
            case hy63 => (intro w' hw'; go_simp; try with_reducible rfl)
            (try change wpAnyH _ _ _ _ _ _ _ (Act.put _ (some 27) _) _)
            try simp only [Act.put, List.setIfInBounds_toArray, List.set_cons_zero, List.set_cons_succ]
            refine' wpAnyH_take (i := 10) (oi := _) (v := ?v64) rfl ?hs64 ?hf64 ?hr64 ?hQ64 (Or.inl ⟨?hw64, ?hy64⟩) hHeld ?rest64
            case hs64 => kernel_rfl
            case hf64 => kernel_rfl
            case hr64 => kernel_rfl
            case hQ64 => exact fun _ _ _ h => h
            case hw64 => kernel_rfl
            case hy64 => (intro w' hw'; go_simp; try with_reducible rfl)
            (try change wpAnyH _ _ _ _ _ _ _ (Act.put _ (some 28) _) _)
            try simp only [Act.put, List.setIfInBounds_toArray, List.set_cons_zero, List.set_cons_succ]
            refine' wpAnyH_take (i := 11) (oi := _) (v := ?v65) rfl ?hs65 ?hf65 ?hr65 ?hQ65 (Or.inl ⟨?hw65, ?hy65⟩) hHeld ?rest65
            case hs65 => kernel_rfl
            case hf65 => kernel_rfl
            case hr65 => kernel_rfl
            case hQ65 => exact fun _ _ _ h => h
            case hw65 => kernel_rfl
            case hy65 => (intro w' hw'; go_simp; try with_reducible rfl)
            (try change wpAnyH _ _ _ _ _ _ _ (Act.put _ (some 29) _) _)
            try simp only [Act.put, List.setIfInBounds_toArray, List.set_cons_zero, List.set_cons_succ]
            refine' wpAnyH_take (i := 12) (oi := _) (v := ?v66) rfl ?hs66 ?hf66 ?hr66 ?hQ66 (Or.inl ⟨?hw66, ?hy66⟩) hHeld ?rest66
            case hs66 => kernel_rfl
            case hf66 => kernel_rfl
            case hr66 => kernel_rfl
            case hQ66 => exact fun _ _ _ h => h
            case hw66 => kernel_rfl
            case hy66 => (intro w' hw'; go_simp; try with_reducible rfl)
            (try change wpAnyH _ _ _ _ _ _ _ (Act.put _ (some 30) _) _)
            try simp only [Act.put, List.setIfInBounds_toArray, List.set_cons_zero, List.set_cons_succ]
            refine' wpAnyH_take (i := 13) (oi := _) (v := ?v67) rfl ?hs67 ?hf67 ?hr67 ?hQ67 (Or.inl ⟨?hw67, ?hy67⟩) hHeld ?rest67
            case hs67 => kernel_rfl
            case hf67 => kernel_rfl
            case hr67 => kernel_rfl
            case hQ67 => exact fun _ _ _ h => h
            case hw67 => kernel_rfl
            case hy67 => (intro w' hw'; have c2' := HB2.out _ hw'; have c4' := HC2.out _ hw'; have c5' := HC3.out _ hw'; go_simp; try with_reducible rfl)
            (try change wpAnyH _ _ _ _ _ _ _ (Act.put _ (some 31) _) _)
            try simp only [Act.put, List.setIfInBounds_toArray, List.set_cons_zero, List.set_cons_succ]
            refine' wpAnyH_take (i := 14) (oi := _) (v := ?v68) rfl ?hs68 ?hf68 ?hr68 ?hQ68 (Or.inl ⟨?hw68, ?hy68⟩) hHeld ?rest68
            case hs68 => kernel_rfl
            case hf68 => kernel_rfl
            case hr68 => kernel_rfl
            case hQ68 => exact fun _ _ _ h => h
            case hw68 => kernel_rfl
            case hy68 => (intro w' hw'; go_simp; try with_reducible rfl)
            (try change wpAnyH _ _ _ _ _ _ _ (Act.put _ (some 32) _) _)
            try simp only [Act.put, List.setIfInBounds_toArray, List.set_cons_zero, List.set_cons_succ]
            refine' wpAnyH_take (i := 15) (oi := _) (v := ?v69) rfl ?hs69 ?hf69 ?hr69 ?hQ69 (Or.inl ⟨?hw69, ?hy69⟩) hHeld ?rest69
            case hs69 => kernel_rfl
            case hf69 => kernel_rfl
            case hr69 => kernel_rfl
            case hQ69 => exact fun _ _ _ h => h
            case hw69 => kernel_rfl
            case hy69 => (intro w' hw'; go_simp; try with_reducible rfl)
            (try change wpAnyH _ _ _ _ _ _ _ (Act.put _ (some 33) _) _)
            try simp only [Act.put, List.setIfInBounds_toArray, List.set_cons_zero, List.set_cons_succ]
            refine' wpAnyH_take (i := 16) (oi := _) (v := ?v70) rfl ?hs70 ?hf70 ?hr70 ?hQ70 (Or.inl ⟨?hw70, ?hy70⟩) hHeld ?rest70
            case hs70 => kernel_rfl
            case hf70 => kernel_rfl
            case hr70 => kernel_rfl
            case hQ70 => exact fun _ _ _ h => h
            case hw70 => kernel_rfl
            case hy70 => (intro w' hw'; have c2' := HB2.out _ hw'; have c4' := HC2.out _ hw'; have c5' := HC3.out _ hw'; go_simp; try with_reducible rfl)
            (try change wpAnyH _ _ _ _ _ _ _ (Act.put _ (some 34) _) _)
            try simp only [Act.put, List.setIfInBounds_toArray, List.set_cons_zero, List.set_cons_succ]
            refine' wpAnyH_take (i := 18) (oi := _) (v := ?v71) rfl ?hs71 ?hf71 ?hr71 ?hQ71 (Or.inl ⟨?hw71, ?hy71⟩) hHeld ?rest71
            case hs71 => kernel_rfl
            case hf71 => kernel_rfl
            case hr71 => kernel_rfl
            case hQ71 => exact fun _ _ _ h => h
            case hw71 => kernel_rfl
            case hy71 => (intro w' hw'; go_simp; try with_reducible rfl)
            (try change wpAnyH _ _ _ _ _ _ _ (Act.put _ (some 36) _) _)
            try simp only [Act.put, List.setIfInBounds_toArray, List.set_cons_zero, List.set_cons_succ]
            refine' wpAnyH_take (i := 19) (oi := _) (v := ?v72) rfl ?hs72 ?hf72 ?hr72 ?hQ72 (Or.inl ⟨?hw72, ?hy72⟩) hHeld ?rest72
            case hs72 => kernel_rfl
            case hf72 => kernel_rfl
            case hr72 => kernel_rfl
            case hQ72 => exact fun _ _ _ h => h
            case hw72 => kernel_rfl
            case hy72 => (intro w' hw'; have c2' := HB2.out _ hw'; have c4' := HC2.out _ hw'; have c5' := HC3.out _ hw'; go_simp; try with_reducible rfl)
            (try change wpAnyH _ _ _ _ _ _ _ (Act.put _ (some 37) _) _)
            try simp only [Act.put, List.setIfInBounds_toArray, List.set_cons_zero, List.set_cons_succ]
            refine' wpAnyH_take (i := 20) (oi := _) (v := ?v73) rfl ?hs73 ?hf73 ?hr73 ?hQ73 (Or.inl ⟨?hw73, ?hy73⟩) hHeld ?rest73
            case hs73 => kernel_rfl
            case hf73 => kernel_rfl
            case hr73 => kernel_rfl
            case hQ73 => exact fun _ _ _ h => h
            case hw73 => kernel_rfl
            case hy73 => (intro w' hw'; go_simp; try with_reducible rfl)
            (try change wpAnyH _ _ _ _ _ _ _ (Act.put _ (some 38) _) _)
            try simp only [Act.put, List.setIfInBounds_toArray, List.set_cons_zero, List.set_cons_succ]
            refine' wpAnyH_take (i := 21) (oi := _) (v := ?v74) rfl ?hs74 ?hf74 ?hr74 ?hQ74 (Or.inl ⟨?hw74, ?hy74⟩) hHeld ?rest74
            case hs74 => kernel_rfl
            case hf74 => kernel_rfl
            case hr74 => kernel_rfl
            case hQ74 => exact fun _ _ _ h => h
            case hw74 => kernel_rfl
            case hy74 => (intro w' hw'; go_simp; try with_reducible rfl)
            (try change wpAnyH _ _ _ _ _ _ _ (Act.put _ (some 39) _) _)
            try simp only [Act.put, List.setIfInBounds_toArray, List.set_cons_zero, List.set_cons_succ]
            refine' wpAnyH_take (i := 22) (oi := _) (v := ?v75) rfl ?hs75 ?hf75 ?hr75 ?hQ75 (Or.inl ⟨?hw75, ?hy75⟩) hHeld ?rest75
            case hs75 => kernel_rfl
            case hf75 => kernel_rfl
            case hr75 => kernel_rfl
            case hQ75 => exact fun _ _ _ h => h
            case hw75 => kernel_rfl
            case hy75 => (intro w' hw'; have c2' := HB2.out _ hw'; have c4' := HC2.out _ hw'; have c5' := HC3.out _ hw'; go_simp; try with_reducible rfl)
            (try change wpAnyH _ _ _ _ _ _ _ (Act.put _ (some 40) _) _)
            try simp only [Act.put, List.setIfInBounds_toArray, List.set_cons_zero, List.set_cons_succ]
            refine wpAnyH_ready (rs := [17]) (by kernel_rfl) (by simp) ?_
            refine AllReadyH.cons rfl (fun K hK => ?_) AllReadyH.nil
            go_simp
            go_at_call 92; refine (HIE.out _ hHeld).mono ?_; rintro e wb ⟨rfl, hba⟩; have hbe := below_step hHeld hba; clear hba
            (try go_wp2_with fail)
            refine hK.out _ _ hbe (fun hHeld => ?_)
            clear hK K
            try simp only [Act.put, List.setIfInBounds_toArray, List.set_cons_zero, List.set_cons_succ]
            refine wpAnyH_ready (rs := [23]) (by kernel_rfl) (by simp) ?_
            refine AllReadyH.cons rfl (fun K hK => ?_) AllReadyH.nil
            go_simp
            go_at_call 92; refine (HIF.out _ hHeld).mono ?_; rintro e wc ⟨rfl, hba⟩; have hbe := below_step hHeld hba; clear hba
            (try go_wp2_with fail)
            refine hK.out _ _ hbe (fun hHeld => ?_)
            clear hK K
            try simp only [Act.put, List.setIfInBounds_toArray, List.set_cons_zero, List.set_cons_succ]
            refine' wpAnyH_take (i := 24) (oi := _) (v := ?v76) rfl ?hs76 ?hf76 ?hr76 ?hQ76 (Or.inl ⟨?hw76, ?hy76⟩) hHeld ?rest76
            case hs76 => kernel_rfl
            case hf76 => kernel_rfl
            case hr76 => kernel_rfl
            case hQ76 => exact fun _ _ _ h => h
            case hw76 => kernel_rfl
            case hy76 => (intro w' hw'; go_simp; try with_reducible rfl)
            (try change wpAnyH _ _ _ _ _ _ _ (Act.put _ (some 42) _) _)
            try simp only [Act.put, List.setIfInBounds_toArray, List.set_cons_zero, List.set_cons_succ]
            refine' wpAnyH_take (i := 25) (oi := _) (v := ?v77) rfl ?hs77 ?hf77 ?hr77 ?hQ77 (Or.inl ⟨?hw77, ?hy77⟩) hHeld ?rest77
            case hs77 => kernel_rfl
            case hf77 => kernel_rfl
            case hr77 => kernel_rfl
            case hQ77 => exact fun _ _ _ h => h
            case hw77 => kernel_rfl
            case hy77 => (intro w' hw'; go_simp; try with_reducible rfl)
            (try change wpAnyH _ _ _ _ _ _ _ (Act.put _ (some 43) _) _)
            try simp only [Act.put, List.setIfInBounds_toArray, List.set_cons_zero, List.set_cons_succ]
            refine' wpAnyH_take (i := 26) (oi := _) (v := ?v78) rfl ?hs78 ?hf78 ?hr78 ?hQ78 (Or.inl ⟨?hw78, ?hy78⟩) hHeld ?rest78
            case hs78 => kernel_rfl
            case hf78 => kernel_rfl
            case hr78 => kernel_rfl
            case hQ78 => exact fun _ _ _ h => h
            case hw78 => kernel_rfl
            case hy78 => (intro w' hw'; go_simp; try with_reducible rfl)
            (try change wpAnyH _ _ _ _ _ _ _ (Act.put _ (some 44) _) _)
            try simp only [Act.put, List.setIfInBounds_toArray, List.set_cons_zero, List.set_cons_succ]
            refine wpAnyH_done ?hdone79 ?hq79 _
            case hdone79 => kernel_rfl
            go_wp2_with fail
            go_meet
            exact ⟨by rw [HP2.out]; first | rfl | (congr 1; exact decide_eq_decide.2 (by omega)), hHeld⟩
      case rest =>
        obtain ⟨rfl, hbw⟩ := hcut
        have HBW := Lib.hid hbw
        clear hbw hp
        cases p with
        | false =>
          have HK := Lib.hid (HKP2.out HP.out)
          go_wp2
          go_roundw
          case rel => exact ⟨k + 1, by omega, by go_num, by rw [HK.out], (fun _ => by first | rfl | trivial), HBX3.out.kept HBW.out, HW.out _ HBW.out⟩
          case measure => simp [intOf]; omega
        | true =>
          have HK := Lib.hid (HTK2.out HP.out)
          go_wp2
          go_roundw
          case rel => exact ⟨k + 1, by omega, by go_num, by rw [HK.out], (fun _ => by first | rfl | trivial), HBX3.out.kept HBW.out, HW.out _ HBW.out⟩
          case measure => simp [intOf]; omega
    · obtain rfl : k = x.Rows.length := by omega
      have HN : Hid (rowW x out = bestTo x out x.Rows.length) := by
        unfold Hid
        cases t with
        | true => exact (HY2.out rfl).1
        | false =>
          have hk0 : x.Rows.length = 0 := by rcases Nat.eq_zero_or_pos x.Rows.length with h | h; exact h; exact absurd (hpos h) (by simp)
          rw [HN2.out rfl, hk0]; rfl
      have b2 := HBX.out.cell 2 rfl
      go_wp2
      go_ret
      exact ⟨ret_i64 HN.out.symm, HB.out⟩
end Go.Proofs.YtkaihnlknncfdaaGreatDoor

/- The program's rowsOf: what it answers. -/
namespace Go.Proofs.YtkaihnlknncfdaaGreatDoor
set_option maxRecDepth 100000
open Go.RowKit Go.Sort M
set_option linter.unusedVariables false
set_option linter.unusedSimpArgs false

theorem Tryz.infoTMk : (Tryz.prog.info? 88).map (fun i => (i.zero, i.size, i.bytes)) = some (some (.agg #[.slice none 0 0, .slice none 0 0]), 2, 48) := by kernel_rfl
theorem rmk2 : rMk.size = 2 := rfl
theorem World.setCell_size11 (w : World) (a : Addr) (v : Value) : (w.setCell a v).heap.size = w.heap.size := by simp [World.setCell]
set_option maxHeartbeats 16000000 in
theorem implRows_any (x : DTableau) (A1 : Option Addr) (c1 : Nat) (A2 : Option Addr) (c2 : Nat) (A3 : Option Addr) (c3 : Nat) (F1 F2 F3 : Addr → Prop) (w : World) (hm : rTableau.sz x ≤ 1048576) (hv : TabRd false w (.slice A1 x.Names.length c1) (.slice A2 x.Rows.length c2) (.slice A3 x.Marks.length c3) x F1 F2 F3) (hT : FeatTab w) :
    Calls Tryz.prog 56 #[.agg #[.string x.Input, .slice A1 x.Names.length c1, .slice A2 x.Rows.length c2, .slice A3 x.Marks.length c3]] w (MkPost x w) := by
  have HV := Lib.hid hv.tight
  have HIT : Hid (∀ W, Below w.heap.size w W → Calls Tryz.prog 41 #[.agg #[.string x.Input, .slice A1 x.Names.length c1, .slice A2 x.Rows.length c2, .slice A3 x.Marks.length c3]] W fun e w' => e = .returned (.bool (isTab x)) ∧ Below W.heap.size W w') := fun W hW => implTab_any x A1 c1 A2 c2 A3 c3 F1 F2 F3 W hm (hv.kept hW) (feat_below hT hW)
  have HP : Hid (∀ u G w', RowRd rMk false w' u (rowsL x) G → Below w.heap.size w w' → MkPost x w (.returned u) w') := fun u G w' h1 h2 => ⟨u, G, rfl, h1, h2⟩
  have HX2 : Hid (∀ k, k < x.Rows.length → ∃ y, x.Rows[k]? = some y) := fun k hk => ⟨_, List.getElem?_eq_getElem hk⟩
  have HX3 : Hid (∀ k, k < x.Marks.length → ∃ y, x.Marks[k]? = some y) := fun k hk => ⟨_, List.getElem?_eq_getElem hk⟩
  have HLT : Hid (∀ b, isTab x = b → b = true → x.Marks.length = x.Rows.length ∧ x.Rows.length ≤ 250 ∧ (rowsL x).length = x.Rows.length) := fun b h1 h2 => by
    have h3 := headT_parts (headT_of (h1.trans h2))
    exact ⟨h3.2.2.2.2, h3.2.2.2.1, rowsL_len (h1.trans h2)⟩
  have HNO : Hid (∀ b, isTab x = b → b = false → rowsL x = []) := fun b h1 h2 => rowsL_no (h1.trans h2)
  have HAT : Hid (∀ b, isTab x = b → b = true → ∀ (k : Nat) (c : DCandidate) (m : List Int), x.Rows[k]? = some c → x.Marks[k]? = some m → (rowsL x)[k]? = some (c, m)) := fun b h1 h2 k c m h3 h4 => rowsL_at (h1.trans h2) h3 h4
  clear hv hm hT
  have HA : Hid (∀ o, Below w.heap.size w (w.alloc o)) := fun o => (Below.refl _ _).alloc (Nat.le_refl _) _
  have HA1 : Hid (InC (w.alloc (.cells #[.string x.Input, .slice A1 x.Names.length c1, .slice A2 x.Rows.length c2, .slice A3 x.Marks.length c3] 32)) w.heap.size #[.string x.Input, .slice A1 x.Names.length c1, .slice A2 x.Rows.length c2, .slice A3 x.Marks.length c3] 32) := heap_alloc_new _ _
  obtain ⟨i0, hi, hz0, hz1, hz2⟩ := info_parts Tryz.infoTMk
  go_enter Tryz.func56, Tryz.ntmps56
  go_wp2_with fail
  refine (HIT.out _ (HA.out _)).mono ?_
  rintro e w1 ⟨rfl, hb⟩
  have HB1 : Hid (Below w.heap.size w w1) := below_step (HA.out _) hb
  have HX1 := Lib.hid (HA1.out.kept hb)
  have b2 := HX1.out.cell 2 rfl
  clear hb
  have HLT2 := Lib.hid (HLT.out _ rfl)
  have HNO2 := Lib.hid (HNO.out _ rfl)
  have HAT2 := Lib.hid (HAT.out _ rfl)
  clear HLT HNO HAT HIT
  generalize isTab x = t at *
  cases t with
  | false =>
    have HN := Lib.hid (HNO2.out rfl)
    go_wp2_with fail
    go_ret
    exact HP.out _ (fun _ => False) _ (by rw [HN.out]; exact RowRd.nil _ _ _) HB1.out
  | true =>
  obtain ⟨hml, hr2, hrl⟩ := HLT2.out rfl
  have HAT3 := Lib.hid (HAT2.out rfl)
  have HRL := Lib.hid hrl
  clear HLT2 HNO2 HAT2 hrl
  have H0 := Lib.hid (cpTo_zero zMk (rowsL x))
  have HCA := Lib.hid (cpTo_all zMk (rowsL x))
  have HCL : Hid (∀ k, k ≤ x.Rows.length → (cpTo zMk (rowsL x) k).length = x.Rows.length) := fun k hk => by unfold cpTo; rw [List.length_append, List.length_take, List.length_replicate, HRL.out]; omega
  have HCST : Hid (∀ k c m, x.Rows[k]? = some c → x.Marks[k]? = some m → (cpTo zMk (rowsL x) k).set k (c, m) = cpTo zMk (rowsL x) (k + 1)) := fun k c m h1 h2 => cpTo_step _ _ _ (HAT3.out k c m h1 h2)
  generalize hnn : x.Rows.length = n at *
  go_wp2_with (at_make; refine wpList_make_full _ rfl _ _ 74 rfl w1.heap.size 88 i0 (.agg #[.slice none 0 0, .slice none 0 0]) 2 Tryz.underlying74 hi hz0 hz1 .i64 .i64 _ _ n rfl rfl rfl rfl (by rw [hz2]; omega) (by unfold maxLen; omega) (Nat.le_refl _) ?_; intro w4 hown4 hgrow4; have hb14 : Below w1.heap.size w1 w4 := ((Below.refl _ _).grown hgrow4 (Nat.le_refl _) (fun _ h => by cases h)); have b24 := (HX1.out.kept hb14).cell 2 rfl; clear b2)
  have HO4 : Hid (OwnRd rMk 88 false w1.heap.size w4 (.slice (some ⟨w1.heap.size, 0, none⟩) n n) (cpTo zMk (rowsL x) 0) (fun _ => True)) := by
    unfold Hid
    rw [H0.out, HRL.out]
    rw [show (Value.cells (.agg #[.slice none 0 0, .slice none 0 0])) = #[.slice none 0 0, .slice none 0 0] from rfl] at hown4
    refine ⟨_, fun _ _ => False, by rw [List.length_replicate]; exact hown4, fun k y hk => ?_⟩
    rw [List.getElem?_replicate] at hk
    split at hk
    · cases hk
      refine ⟨[.slice none 0 0, .slice none 0 0], ?_, rMk_mk (F1 := fun _ => False) (F2 := fun _ => False) (RowRd.nil _ _ _) (RowRd.nil _ _ _) (fun _ h => h) (fun _ h => h) (fun h => by cases h), fun _ h => h.elim, fun h => by cases h⟩
      intro j u hj
      have hjn : j < 2 := (List.getElem?_eq_some_iff.1 hj).1
      rw [show rMk.size = 2 from rfl, made_at _ _ _ (by omega) (by decide), show (#[.slice none 0 0, .slice none 0 0] : Array Value).size = 2 from rfl, show (k * 2 + j) % 2 = j by omega]
      simpa using hj
    · cases hk
  have HW4 := Lib.hid hb14
  have HX4 := Lib.hid (HX1.out.kept hb14)
  have hbl : w1.heap.size < w4.heap.size := by
    obtain ⟨_, _, hw, _⟩ := HO4.out
    rcases hw.2 with ⟨h, _⟩ | ⟨g, cp, cur, hv, _, hg, _⟩
    · cases h
    · cases hv; exact (Array.getElem?_eq_some_iff.1 hg).1
  clear hown4 hgrow4 hb14
  go_wp2
  clear b24
  go_loopw [16] (fun i wr => ∃ (k : Nat), k ≤ n ∧ i = .int .i64 k ∧ OwnRd rMk 88 false w1.heap.size wr (.slice (some ⟨w1.heap.size, 0, none⟩) n n) (cpTo zMk (rowsL x) k) (fun _ => True) ∧ w4.heap.size ≤ wr.heap.size ∧ Below w1.heap.size w1 wr) (fun i _ => n - (intOf i).toNat)
  case atStart => exact ⟨0, by omega, rfl, HO4.out, Nat.le_refl _, HW4.out⟩
  case round =>
    obtain ⟨k, hk, rfl, hown, hsz, hbe0⟩ := hrel
    obtain ⟨w5, rfl⟩ : ∃ w5 : World, w5 = wr := ⟨_, rfl⟩
    have HO := Lib.hid hown
    have HBE := Lib.hid hbe0
    have HBW := Lib.hid (below_step HB1.out hbe0)
    have HBX := Lib.hid (HX1.out.kept hbe0)
    clear hown hbe0
    by_cases hkl : k < n
    · obtain ⟨c, hc⟩ := HX2.out k (by omega)
      obtain ⟨m, hmk⟩ := HX3.out k (by omega)
      have HSX := Lib.hid (HCST.out k c m hc hmk)
      have HKL := Lib.hid (HCL.out k hk)
      obtain ⟨g2, o2, xs2, G2, rfl, -, hr2', hG2, hc2⟩ := HV.out.rows.get hc
      obtain ⟨v2, rfl, q2⟩ := rCandidate_rd hr2'
      obtain ⟨g3, o3, xs3, G3, rfl, -, hr3', hG3, hc3⟩ := HV.out.marks.get hmk
      obtain ⟨v3, rfl, q3⟩ := id hr3'
      rw [rCandidate_size] at hc2
      rw [show (Rep.row Rep.int).size = 1 from rfl] at hc3
      have d2 := hc2 0 _ rfl
      have d3 := hc3 0 _ rfl
      simp only [Nat.add_zero, Nat.mul_one] at d2 d3
      have hlt3 : g3 < w.heap.size := block_lt_of_cell d3
      replace d2 := cell_kept HBW.out d2
      replace d3 := cell_kept HBW.out d3
      obtain ⟨A2', cp2, rfl⟩ := q2.form
      obtain ⟨A3', cp3, rfl⟩ := q3.form
      have hwlt : w.heap.size < w1.heap.size := HX1.out.lt
      have h15 : w1.heap.size < w5.heap.size := by omega
      have HWB : Hid (Below w5.heap.size w5 (w5.alloc (.cells #[.slice A2' c.Links.length cp2] 55))) := (Below.refl _ _).alloc (Nat.le_refl _) _
      have HWD : Hid (Below w5.heap.size w5 (w5.alloc (.cells #[.slice A2' c.Links.length cp2] 55)).drew) := HWB.out.drew
      have HIB : Hid (InC (w5.alloc (.cells #[.slice A2' c.Links.length cp2] 55)).drew w5.heap.size #[.slice A2' c.Links.length cp2] 55) := heap_alloc_new _ _
      have HQX : Hid (rMk.rd false (w5.alloc (.cells #[.slice A2' c.Links.length cp2] 55)).drew [.slice A2' c.Links.length cp2, .slice A3' m.length cp3] (c, m) (fun p => G2 p ∨ G3 p)) := rMk_mk (x := (c, m)) (F1 := G2) (F2 := G3) ((q2.kept HBW.out).kept HWD.out) ((q3.kept HBW.out).kept HWD.out) (fun _ h => Or.inl h) (fun _ h => Or.inr h) (fun h => by cases h)
      have HFX : Hid (∀ p, G2 p ∨ G3 p → p.block < (w5.alloc (.cells #[.slice A2' c.Links.length cp2] 55)).drew.heap.size ∧ p.block ≠ w1.heap.size) := fun p hp => by
        have h1 : p.block < w.heap.size := hp.elim (fun h => (hG2 p h).2) (fun h => (hG3 p h).2)
        have h2 : w5.heap.size ≤ (w5.alloc (.cells #[.slice A2' c.Links.length cp2] 55)).drew.heap.size := HWD.out.size
        exact ⟨by omega, by omega⟩
      have HOD := Lib.hid (HO.out.kept HWD.out)
      have HS0 : Hid ((w5.alloc (.cells #[.slice A2' c.Links.length cp2] 55)).drew.cell? ⟨w5.heap.size, 0, none⟩ = some (.slice A2' c.Links.length cp2) ∧ (w5.alloc (.cells #[.slice A2' c.Links.length cp2] 55)).drew.cell? ⟨w.heap.size, 3, none⟩ = some (.slice (some ⟨g3, o3, none⟩) x.Marks.length c3) ∧ (w5.alloc (.cells #[.slice A2' c.Links.length cp2] 55)).drew.cell? ⟨g3, o3 + k, none⟩ = some (.slice A3' m.length cp3)) := ⟨HIB.out.cell 0 rfl, (HBX.out.kept HWD.out).cell 3 rfl, cell_kept HWD.out d3⟩
      obtain ⟨⟨z0, e0⟩, ⟨z1, e1⟩, f0, f1⟩ := HOD.out.at2 rmk2 HKL.out hkl
      have HNEW := Lib.hid ((HOD.out.set2 rmk2 HKL.out hkl HQX.out HFX.out).mono (G' := fun _ => True) (fun _ _ => trivial))
      rw [HSX.out] at HNEW
      have HBB : Hid (Below w1.heap.size w1 (((w5.alloc (.cells #[.slice A2' c.Links.length cp2] 55)).drew.setCell ⟨w1.heap.size, k * 2, none⟩ (.slice A2' c.Links.length cp2)).setCell ⟨w1.heap.size, k * 2 + 1, none⟩ (.slice A3' m.length cp3))) := ((below_step HBE.out HWD.out).setCell (p := ⟨w1.heap.size, k * 2, none⟩) (Nat.le_refl _) _).setCell (p := ⟨w1.heap.size, k * 2 + 1, none⟩) (Nat.le_refl _) _
      have HSS : Hid (w4.heap.size ≤ (((w5.alloc (.cells #[.slice A2' c.Links.length cp2] 55)).drew.setCell ⟨w1.heap.size, k * 2, none⟩ (.slice A2' c.Links.length cp2)).setCell ⟨w1.heap.size, k * 2 + 1, none⟩ (.slice A3' m.length cp3)).heap.size) := by
        have h2 : w5.heap.size ≤ (w5.alloc (.cells #[.slice A2' c.Links.length cp2] 55)).drew.heap.size := HWD.out.size
        unfold Hid; simp only [World.setCell_size11]; omega
      have hkm : (k : Int) < (x.Marks.length : Int) := by omega
      have hkr : (k : Int) < (n : Int) := by omega
      clear hc2 hc3 hr2' hr3' q2 q3 hG2 hG3 HQX HFX HOD HSX hc hmk d3
      go_upto_region 7 with fail
      clear d2
      refine wp_region_held_drew (S := fun w' => w'.cell? ⟨w5.heap.size, 0, none⟩ = some (.slice A2' c.Links.length cp2) ∧ w'.cell? ⟨w.heap.size, 3, none⟩ = some (.slice (some ⟨g3, o3, none⟩) x.Marks.length c3) ∧ w'.cell? ⟨g3, o3 + k, none⟩ = some (.slice A3' m.length cp3)) (by kernel_rfl) HS0.out (fun hHeld => ?_)
      generalize (w5.alloc (.cells #[.slice A2' c.Links.length cp2] 55)).drew = WD at *
      refine' wpAnyH_take (i := 0) (oi := _) (v := ?v1) rfl ?hs1 ?hf1 ?hr1 ?hQ1 (Or.inl ⟨?hw1, ?hy1⟩) hHeld ?rest1
      case hs1 => kernel_rfl
      case hf1 => kernel_rfl
      case hr1 => kernel_rfl
      case hQ1 => exact fun _ _ _ h => h
      case hw1 => kernel_rfl
      case hy1 => (intro w' hw'; go_simp; try with_reducible rfl)
      (try change wpAnyH _ _ _ _ _ _ _ (Act.put _ (some 21) _) _)
      try simp only [Act.put, List.setIfInBounds_toArray, List.set_cons_zero, List.set_cons_succ]
      refine' wpAnyH_take (i := 1) (oi := _) (v := ?v2) rfl ?hs2 ?hf2 ?hr2 ?hQ2 (Or.inl ⟨?hw2, ?hy2⟩) hHeld ?rest2
      case hs2 => kernel_rfl
      case hf2 => kernel_rfl
      case hr2 => kernel_rfl
      case hQ2 => exact fun _ _ _ h => h
      case hw2 => kernel_rfl
      case hy2 => (intro w' hw'; go_simp; try with_reducible rfl)
      (try change wpAnyH _ _ _ _ _ _ _ (Act.put _ (some 22) _) _)
      try simp only [Act.put, List.setIfInBounds_toArray, List.set_cons_zero, List.set_cons_succ]
      refine' wpAnyH_take (i := 2) (oi := _) (v := ?v3) rfl ?hs3 ?hf3 ?hr3 ?hQ3 (Or.inl ⟨?hw3, ?hy3⟩) hHeld ?rest3
      case hs3 => kernel_rfl
      case hf3 => kernel_rfl
      case hr3 => kernel_rfl
      case hQ3 => exact fun _ _ _ h => h
      case hw3 => kernel_rfl
      case hy3 => (intro w' hw'; have cA := hw'.1; have cB := hw'.2.1; have cC := hw'.2.2; clear hw'; go_simp; try with_reducible rfl)
      (try change wpAnyH _ _ _ _ _ _ _ (Act.put _ (some 23) _) _)
      try simp only [Act.put, List.setIfInBounds_toArray, List.set_cons_zero, List.set_cons_succ]
      refine' wpAnyH_take (i := 3) (oi := _) (v := ?v4) rfl ?hs4 ?hf4 ?hr4 ?hQ4 (Or.inl ⟨?hw4, ?hy4⟩) hHeld ?rest4
      case hs4 => kernel_rfl
      case hf4 => kernel_rfl
      case hr4 => kernel_rfl
      case hQ4 => exact fun _ _ _ h => h
      case hw4 => kernel_rfl
      case hy4 => (intro w' hw'; go_simp; try with_reducible rfl)
      (try change wpAnyH _ _ _ _ _ _ _ (Act.put _ (some 24) _) _)
      try simp only [Act.put, List.setIfInBounds_toArray, List.set_cons_zero, List.set_cons_succ]
      refine' wpAnyH_take (i := 4) (oi := _) (v := ?v5) rfl ?hs5 ?hf5 ?hr5 ?hQ5 (Or.inl ⟨?hw5, ?hy5⟩) hHeld ?rest5
      case hs5 => kernel_rfl
      case hf5 => kernel_rfl
      case hr5 => kernel_rfl
      case hQ5 => exact fun _ _ _ h => h
      case hw5 => kernel_rfl
      case hy5 => (intro w' hw'; have cA := hw'.1; have cB := hw'.2.1; have cC := hw'.2.2; clear hw'; go_simp; try with_reducible rfl)
      (try change wpAnyH _ _ _ _ _ _ _ (Act.put _ (some 25) _) _)
      try simp only [Act.put, List.setIfInBounds_toArray, List.set_cons_zero, List.set_cons_succ]
      refine' wpAnyH_take (i := 5) (oi := _) (v := ?v6) rfl ?hs6 ?hf6 ?hr6 ?hQ6 (Or.inl ⟨?hw6, ?hy6⟩) hHeld ?rest6
      case hs6 => kernel_rfl
      case hf6 => kernel_rfl
      case hr6 => kernel_rfl
      case hQ6 => exact fun _ _ _ h => h
      case hw6 => kernel_rfl
      case hy6 => (intro w' hw'; go_simp; try with_reducible rfl)
      (try change wpAnyH _ _ _ _ _ _ _ (Act.put _ (some 26) _) _)
      try simp only [Act.put, List.setIfInBounds_toArray, List.set_cons_zero, List.set_cons_succ]
      refine' wpAnyH_take (i := 6) (oi := _) (v := ?v7) rfl ?hs7 ?hf7 ?hr7 ?hQ7 (Or.inl ⟨?hw7, ?hy7⟩) hHeld ?rest7
      case hs7 => kernel_rfl
      case hf7 => kernel_rfl
      case hr7 => kernel_rfl
      case hQ7 => exact fun _ _ _ h => h
      case hw7 => kernel_rfl
      case hy7 => (intro w' hw'; go_simp; try with_reducible rfl)
      (try change wpAnyH _ _ _ _ _ _ _ (Act.put _ (some 27) _) _)
      try simp only [Act.put, List.setIfInBounds_toArray, List.set_cons_zero, List.set_cons_succ]
      refine' wpAnyH_take (i := 7) (oi := _) (v := ?v8) rfl ?hs8 ?hf8 ?hr8 ?hQ8 (Or.inl ⟨?hw8, ?hy8⟩) hHeld ?rest8
      case hs8 => kernel_rfl
      case hf8 => kernel_rfl
      case hr8 => kernel_rfl
      case hQ8 => exact fun _ _ _ h => h
      case hw8 => kernel_rfl
      case hy8 => (intro w' hw'; have cA := hw'.1; have cB := hw'.2.1; have cC := hw'.2.2; clear hw'; go_simp; try with_reducible rfl)
      (try change wpAnyH _ _ _ _ _ _ _ (Act.put _ (some 28) _) _)
      try simp only [Act.put, List.setIfInBounds_toArray, List.set_cons_zero, List.set_cons_succ]
      refine' wpAnyH_take (i := 8) (oi := _) (v := ?v9) rfl ?hs9 ?hf9 ?hr9 ?hQ9 (Or.inl ⟨?hw9, ?hy9⟩) hHeld ?rest9
      case hs9 => kernel_rfl
      case hf9 => kernel_rfl
      case hr9 => kernel_rfl
      case hQ9 => exact fun _ _ _ h => h
      case hw9 => kernel_rfl
      case hy9 => (intro w' hw'; go_simp; try with_reducible rfl)
      (try change wpAnyH _ _ _ _ _ _ _ (Act.put _ (some 29) _) _)
      try simp only [Act.put, List.setIfInBounds_toArray, List.set_cons_zero, List.set_cons_succ]
      refine' wpAnyH_take (i := 9) (oi := _) (v := ?v10) rfl ?hs10 ?hf10 ?hr10 ?hQ10 (Or.inl ⟨?hw10, ?hy10⟩) hHeld ?rest10
      case hs10 => kernel_rfl
      case hf10 => kernel_rfl
      case hr10 => kernel_rfl
      case hQ10 => exact fun _ _ _ h => h
      case hw10 => kernel_rfl
      case hy10 => (intro w' hw'; go_simp; try with_reducible rfl)
      (try change wpAnyH _ _ _ _ _ _ _ (Act.put _ (some 30) _) _)
      try simp only [Act.put, List.setIfInBounds_toArray, List.set_cons_zero, List.set_cons_succ]
      refine wpAnyH_ready (rs := [10]) (by kernel_rfl) (by simp) ?_
      refine AllReadyH.cons rfl (fun K hK => ?_) AllReadyH.nil
      go_simp
      skip
      (try go_wp2_with fail)
      refine hK.out _ _ ⟨(cs_far2 (p := ⟨w5.heap.size, 0, none⟩) (by show w5.heap.size ≠ w1.heap.size; omega)).trans hHeld.1, (cs_far2 (p := ⟨w.heap.size, 3, none⟩) (by show w.heap.size ≠ w1.heap.size; omega)).trans hHeld.2.1, (cs_far2 (p := ⟨g3, o3 + k, none⟩) (by show g3 ≠ w1.heap.size; omega)).trans hHeld.2.2⟩ (fun hHeld => ?_)
      clear hK K
      try simp only [Act.put, List.setIfInBounds_toArray, List.set_cons_zero, List.set_cons_succ]
      refine wpAnyH_done ?hdone11 ?hq11 _
      case hdone11 => kernel_rfl
      go_wp2
      go_roundw
      case rel => exact ⟨k + 1, by omega, by go_num, HNEW.out, HSS.out, HBB.out⟩
      case measure => simp [intOf]; omega
    · obtain rfl : k = n := by omega
      have hro := HO.out.row (by rw [HCL.out k (Nat.le_refl _)]; omega)
      have hca := HCA.out
      rw [HRL.out] at hca
      rw [hca] at hro
      have HRO := Lib.hid hro
      clear hro hca
      go_wp2
      go_ret
      exact HP.out _ _ _ HRO.out HBW.out
end Go.Proofs.YtkaihnlknncfdaaGreatDoor

/- The program's RowWith: what it answers. -/
namespace Go.Proofs.YtkaihnlknncfdaaGreatDoor
set_option maxRecDepth 100000
open Go.RowKit Go.Sort M
set_option linter.unusedVariables false
set_option linter.unusedSimpArgs false

set_option maxHeartbeats 16000000 in
theorem implRw_any (x : DTableau) (A1 : Option Addr) (c1 : Nat) (A2 : Option Addr) (c2 : Nat) (A3 : Option Addr) (c3 : Nat) (F1 F2 F3 : Addr → Prop) (out : ByteArray) (w : World) (hm : rTableau.sz x ≤ 1048576) (hv : TabRd false w (.slice A1 x.Names.length c1) (.slice A2 x.Rows.length c2) (.slice A3 x.Marks.length c3) x F1 F2 F3) (hT : FeatTab w) :
    Calls Tryz.prog 43 #[.agg #[.string x.Input, .slice A1 x.Names.length c1, .slice A2 x.Rows.length c2, .slice A3 x.Marks.length c3], .string out] w fun e w' => e = .returned (.int .i64 (rowW x out)) ∧ Below w.heap.size w w' := by
  obtain ⟨hz0, hz1, hz2, hz3, hz4, hz5⟩ := szTab_parts hm
  have HZ4 : Hid (∀ (k : Nat) p, (rowsL x)[k]? = some p → p.1.Links.length ≤ 1048576 ∧ x.Rows[k]? = some p.1) := fun k p h => ⟨hz4 k p.1 (rowsL_of h).2.1, (rowsL_of h).2.1⟩
  have HRS : Hid (∀ W, Below w.heap.size w W → Calls Tryz.prog 56 #[.agg #[.string x.Input, .slice A1 x.Names.length c1, .slice A2 x.Rows.length c2, .slice A3 x.Marks.length c3]] W (MkPost x W)) := fun W hW => implRows_any x A1 c1 A2 c2 A3 c3 F1 F2 F3 W hm (hv.kept hW) (feat_below hT hW)
  have HSO : Hid (∀ (c : DCandidate) (v : Value) (G : Addr → Prop) W, c.Links.length ≤ 1048576 → RowRd rLink false W v c.Links G → Calls Tryz.prog 63 #[.agg #[v]] W fun e w' => e = .returned (.string (outT c.Links)) ∧ Below W.heap.size W w') := fun c v G W hl hr => implOutput_any c v G W hl hr
  have HSE : Hid (∀ (c : DCandidate) (v : Value) (G : Addr → Prop) W, c.Links.length ≤ 1048576 → RowRd rLink false W v c.Links G → Calls Tryz.prog 93 #[.agg #[v]] W fun e w' => e = .returned (.int .i64 (edits c.Links : Nat)) ∧ Below W.heap.size W w') := fun c v G W hl hr => implEdits_any c v G W hl hr
  have HX2 : Hid (∀ k, k < (rowsL x).length → ∃ y, (rowsL x)[k]? = some y) := fun k hk => ⟨_, List.getElem?_eq_getElem hk⟩
  have HRG := Lib.hid (bestTo_range x out)
  have HOA : Hid (∀ (k : Nat) (c : DCandidate), x.Rows[k]? = some c → outAt x k = outT c.Links ∧ edAt x k = edits c.Links) := fun k c h => ⟨outAt_of h, edAt_of h⟩
  have HTK : Hid (∀ k, outAt x k = out → (bestTo x out k < 0 ∨ edAt x k < edAt x (bestTo x out k).toNat) → bestTo x out (k + 1) = (k : Int)) := fun k h1 h2 => bestTo_take h1 h2
  have HKP : Hid (∀ k, ¬ (outAt x k = out ∧ (bestTo x out k < 0 ∨ edAt x k < edAt x (bestTo x out k).toNat)) → bestTo x out (k + 1) = bestTo x out k) := fun k h => bestTo_keep h
  have HRW : Hid (rowW x out = bestTo x out (rowsL x).length) := rfl
  have H00 : Hid (bestTo x out 0 = -1) := rfl
  have HA : Hid (∀ o, Below w.heap.size w (w.alloc o)) := fun o => (Below.refl _ _).alloc (Nat.le_refl _) _
  clear hv hz4 hz5 hm hT
  go_enter Tryz.func43, Tryz.ntmps43
  go_wp2_with fail
  refine (HRS.out _ (HA.out _)).mono ?_
  rintro e w1 ⟨u, G, rfl, hrow, hb⟩
  obtain ⟨Ar, cr, rfl⟩ := hrow.form
  have hmx := hrow.max
  have HB1 : Hid (Below w.heap.size w w1) := below_step (HA.out _) hb
  have HROW := Lib.hid hrow
  clear hb hrow HRS
  generalize hln : (rowsL x).length = n at *
  go_wp2
  go_loopw [5, 6, 13] (fun u f i wr => ∃ (k : Nat) (fz : Int), k ≤ n ∧ i = .int .i64 k ∧ u = .int .i64 (bestTo x out k) ∧ f = .int .i64 fz ∧ Hid (0 ≤ bestTo x out k → fz = (edAt x (bestTo x out k).toNat : Int)) ∧ Below w1.heap.size w1 wr) (fun _ _ i _ => n - (intOf i).toNat)
  case atStart => exact ⟨0, 0, by omega, rfl, by rw [H00.out], rfl, fun h => by rw [H00.out] at h; omega, Below.refl _ _⟩
  case round =>
    obtain ⟨k, fz, hk, rfl, rfl, rfl, hfz, hbe0⟩ := hrel
    obtain ⟨w2, rfl⟩ : ∃ w2 : World, w2 = wr := ⟨_, rfl⟩
    have HB := Lib.hid hbe0
    have HBW := Lib.hid (below_step HB1.out hbe0)
    clear hbe0
    have hrg := HRG.out k
    by_cases hkl : k < n
    · obtain ⟨⟨c, m⟩, hc⟩ := HX2.out k hkl
      obtain ⟨hl, hcx⟩ := HZ4.out k _ hc
      obtain ⟨ho, hd⟩ := HOA.out k c hcx
      have HL := Lib.hid hl
      have HO := Lib.hid ho
      have HD := Lib.hid hd
      have HTK2 := Lib.hid (HTK.out k)
      have HKP2 := Lib.hid (HKP.out k)
      obtain ⟨g2, o2, xs2, G2, rfl, -, hr2', -, hc2⟩ := (HROW.out.kept HB.out).get hc
      obtain ⟨v2, v3, K1, K2, rfl, q2, q3, _⟩ := rMk_rd hr2'
      rw [rMk_size] at hc2
      have d2 := hc2 0 _ rfl
      have d3 := hc2 1 _ rfl
      simp only [Nat.add_zero] at d2
      have HWB : Hid (∀ o, Below w2.heap.size w2 (w2.alloc o)) := fun o => (Below.refl _ _).alloc (Nat.le_refl _) _
      have HIB : Hid (InC (w2.alloc (.cells #[v2, v3] 88)) w2.heap.size #[v2, v3] 88) := heap_alloc_new _ _
      have HQ2 := Lib.hid q2
      obtain ⟨A2', cp2, rfl⟩ := q2.form
      obtain ⟨A3', cp3, rfl⟩ := q3.form
      have HSO2 : Hid (∀ W, Below w2.heap.size w2 W → Calls Tryz.prog 63 #[.agg #[.slice A2' c.Links.length cp2]] W fun e w' => e = .returned (.string (outT c.Links)) ∧ Below W.heap.size W w') := fun W hW => HSO.out c _ K1 W HL.out (HQ2.out.kept hW)
      have HSE2 : Hid (∀ W, Below w2.heap.size w2 W → Calls Tryz.prog 93 #[.agg #[.slice A2' c.Links.length cp2]] W fun e w' => e = .returned (.int .i64 (edits c.Links : Nat)) ∧ Below W.heap.size W w') := fun W hW => HSE.out c _ K1 W HL.out (HQ2.out.kept hW)
      have hne : ((outT c.Links).toList == out.toList) = decide (outT c.Links = out) := txt_eq _ _
      have hkr : (k : Int) < (n : Int) := by omega
      clear hc hr2' hc2 q2 q3 hl hcx ho hd
      generalize hq : bestTo x out k = q at *
      go_wp2_with fail
      refine (HSO2.out _ (HWB.out _)).mono ?_
      rintro e w3 ⟨rfl, hb⟩
      have HB3 : Hid (Below w2.heap.size w2 w3) := below_step (HWB.out _) hb
      have HI3 := Lib.hid (HIB.out.kept hb)
      clear hb d2 d3
      by_cases hoo : outT c.Links = out
      case neg =>
        have hb0 : decide (outT c.Links = out) = false := decide_eq_false hoo
        rw [hb0] at hne
        have HK : Hid (bestTo x out (k + 1) = q) := HKP2.out (fun h => hoo (HO.out.symm.trans h.1))
        clear hb0 hoo
        go_wp2
        go_roundw
        case rel => exact ⟨k + 1, fz, by omega, by go_num, by rw [HK.out], rfl, by rw [HK.out]; exact hfz, below_step HB.out HB3.out⟩
        case measure => simp [intOf]; omega
      have hb0 : decide (outT c.Links = out) = true := decide_eq_true hoo
      rw [hb0] at hne
      have HOO : Hid (outAt x k = out) := HO.out.trans hoo
      have b0 := HI3.out.cell 0 rfl
      clear hb0 hoo
      go_wp2_with fail
      refine (HSE2.out _ HB3.out).mono ?_
      rintro e w4 ⟨rfl, hb⟩
      have HB4 : Hid (Below w2.heap.size w2 w4) := below_step HB3.out hb
      clear hb b0
      by_cases hq0 : q < 0
      case pos =>
        have HK : Hid (bestTo x out (k + 1) = (k : Int)) := HTK2.out HOO.out (Or.inl hq0)
        have hq1 : decide (q < 0) = true := decide_eq_true hq0
        have HEQ : Hid (0 ≤ bestTo x out (k + 1) → ((edits c.Links : Nat) : Int) = (edAt x (bestTo x out (k + 1)).toNat : Int)) := fun _ => by rw [HK.out, Int.toNat_natCast, HD.out]
        clear hq0
        go_wp2
        go_roundw
        case rel => exact ⟨k + 1, _, by omega, by go_num, by rw [HK.out], rfl, HEQ.out, below_step HB.out HB4.out⟩
        case measure => simp [intOf]; omega
      have hfq := hfz.out (by omega)
      have hq1 : decide (q < 0) = false := decide_eq_false hq0
      by_cases hlt : ((edits c.Links : Nat) : Int) < fz
      case pos =>
        have HK : Hid (bestTo x out (k + 1) = (k : Int)) := HTK2.out HOO.out (Or.inr (by rw [HD.out]; omega))
        have HEQ : Hid (0 ≤ bestTo x out (k + 1) → ((edits c.Links : Nat) : Int) = (edAt x (bestTo x out (k + 1)).toNat : Int)) := fun _ => by rw [HK.out, Int.toNat_natCast, HD.out]
        have hl1 : decide (((edits c.Links : Nat) : Int) < fz) = true := decide_eq_true hlt
        clear hq0 hfq hlt
        go_wp2
        go_roundw
        case rel => exact ⟨k + 1, _, by omega, by go_num, by rw [HK.out], rfl, HEQ.out, below_step HB.out HB4.out⟩
        case measure => simp [intOf]; omega
      have HK : Hid (bestTo x out (k + 1) = q) := HKP2.out (fun h => h.2.elim hq0 fun h => hlt (by rw [HD.out] at h; omega))
      have HFZ : Hid (0 ≤ q → fz = (edAt x q.toNat : Int)) := hfz
      have hl1 : decide (((edits c.Links : Nat) : Int) < fz) = false := decide_eq_false hlt
      clear hq0 hfq hlt
      go_wp2
      go_roundw
      case rel => exact ⟨k + 1, fz, by omega, by go_num, by rw [HK.out], rfl, by rw [HK.out]; exact HFZ.out, below_step HB.out HB4.out⟩
      case measure => simp [intOf]; omega
    · obtain rfl : k = n := by omega
      go_wp2
      go_ret
      exact ⟨ret_i64 HRW.out.symm, HBW.out⟩
end Go.Proofs.YtkaihnlknncfdaaGreatDoor

/- The walk of FnExactRowWith: it returns true at every argument. -/
namespace Go.Proofs.YtkaihnlknncfdaaGreatDoor.fnExactRowWith
set_option maxRecDepth 100000
open Go.RowKit Go.Proofs.YtkaihnlknncfdaaGreatDoor M
set_option linter.unusedVariables false
set_option linter.unusedSimpArgs false

set_option maxHeartbeats 16000000 in
theorem walk (w : World) (hT : FeatTab w) (x : DTableau) (F1 F2 F3 : Addr → Prop) (v1 v2 v3 : Value) (hv : TabRd false w v1 v2 v3 x F1 F2 F3) (out : ByteArray) (ho : out.size ≤ maxLen) :
    Calls Tryz.prog 9 #[.agg #[.string x.Input, v1, v2, v3], .string out] w fun e w' => e = .returned (.bool true) ∧ Below w.heap.size w w' := by
  obtain ⟨A1, c1, rfl⟩ := hv.names.form
  obtain ⟨A2, c2, rfl⟩ := hv.rows.form
  obtain ⟨A3, c3, rfl⟩ := hv.marks.form
  have HV := Lib.hid hv.tight
  have HFT := Lib.hid hT
  clear hv hT
  have HB := Lib.hid (Below.refl w.heap.size w)
  go_enter Tryz.func9, Tryz.ntmps9
  by_cases hlen : (1048576 : Int) < (out.size : Int)
  case pos =>
    go_wp2
    go_ret
    exact ⟨rfl, (Below.refl _ _).alloc (Nat.le_refl _) _⟩
  have HC : Hid (∀ W, Below w.heap.size w W → Calls Tryz.prog 12 #[.agg #[.string x.Input, .slice A1 x.Names.length c1, .slice A2 x.Rows.length c2, .slice A3 x.Marks.length c3], .int .i64 1048576] W fun e w' => (∃ z : Int, e = .returned (.int .i64 z) ∧ (z < 0 ∨ z + (rTableau.sz x : Nat) = 1048576 ∧ 0 ≤ z)) ∧ Below W.heap.size W w') := fun W hW => szTableau_any x _ _ _ 1048576 _ _ _ W (by omega) (by omega) (HV.out.kept hW)
  go_wp2_with fail
  refine (HC.out _ (by first | exact Below.refl _ _ | exact (Below.refl _ _).alloc (Nat.le_refl _) _ | exact (Below.refl _ _).drew)).mono ?_
  rintro e w1 ⟨⟨z, rfl, hz⟩, hb⟩
  have hbn : Below w.heap.size w w1 := below_step (by first | exact Below.refl _ _ | exact (Below.refl _ _).alloc (Nat.le_refl _) _ | exact (Below.refl _ _).drew) hb
  have hs1 : Hid (w.heap.size ≤ w1.heap.size) := hbn.size
  replace HV := Lib.hid (HV.out.kept hbn)
  replace HB := Lib.hid (HB.out.trans (hbn.mono HB.out.size))
  have HA : Hid (InC w1 w.heap.size #[.string x.Input, .slice A1 x.Names.length c1, .slice A2 x.Rows.length c2, .slice A3 x.Marks.length c3] 26) := (hb.block _ (by simp)).trans (heap_alloc_new _ _)
  have HA0 : Hid (w.heap.size < w1.heap.size) := (HA.out.lt : _ < _)
  clear hb hbn HC
  by_cases hneg : z < 0
  case pos =>
    go_wp2
    go_ret
    exact ⟨rfl, HB.out⟩
  have HSZ : Hid (rTableau.sz x ≤ 1048576) := by unfold Hid; have := hz.resolve_left hneg; omega
  clear hz
  have HC : Hid (∀ W, Below w1.heap.size w1 W → Calls Tryz.prog 14 #[.agg #[.string x.Input, .slice A1 x.Names.length c1, .slice A2 x.Rows.length c2, .slice A3 x.Marks.length c3]] W (TabPost x W)) := fun W hW => toTableau_any x _ _ _ _ _ _ W HSZ.out (HV.out.kept hW)
  have bHA0 := HA.out.cell 0 rfl
  have bHA1 := HA.out.cell 1 rfl
  have bHA2 := HA.out.cell 2 rfl
  have bHA3 := HA.out.cell 3 rfl
  go_wp2_with fail
  refine (HC.out _ (by first | exact Below.refl _ _ | exact (Below.refl _ _).alloc (Nat.le_refl _) _ | exact (Below.refl _ _).drew)).mono ?_
  rintro e w2 ⟨Au1, cu1, Au2, cu2, Au3, cu3, Gu1, Gu2, Gu3, rfl, hq, hg, hb⟩
  clear bHA0 bHA1 bHA2 bHA3
  have hbn : Below w1.heap.size w1 w2 := below_step (by first | exact Below.refl _ _ | exact (Below.refl _ _).alloc (Nat.le_refl _) _ | exact (Below.refl _ _).drew) hb
  have hs2 : Hid (w1.heap.size ≤ w2.heap.size) := hbn.size
  replace HV := Lib.hid (HV.out.kept hbn)
  replace HA := Lib.hid (HA.out.kept hbn)
  replace HB := Lib.hid (HB.out.trans (hbn.mono HB.out.size))
  have Hu := Lib.hid hq
  have Ru : Hid (∀ a, Gu1 a ∨ Gu2 a ∨ Gu3 a → w1.heap.size ≤ a.block ∧ a.block < w2.heap.size) := fun a ha => ⟨Nat.le_trans (Below.size (B := w1.heap.size) (w := w1) (by first | exact Below.refl _ _ | exact (Below.refl _ _).alloc (Nat.le_refl _) _ | exact (Below.refl _ _).drew)) (hg a ha).1, (hg a ha).2⟩
  clear hb hbn HC hq hg
  have HC : Hid (∀ W, Below w2.heap.size w2 W → Calls Tryz.prog 42 #[.agg #[.string x.Input, .slice Au1 x.Names.length cu1, .slice Au2 x.Rows.length cu2, .slice Au3 x.Marks.length cu3], .string out] W fun e w' => e = .returned (.int .i64 (rowW x out)) ∧ Below W.heap.size W w') := fun W hW => specRw_any x Au1 cu1 Au2 cu2 Au3 cu3 _ _ _  out W HSZ.out (Hu.out.kept hW).weak
  have bHA0 := HA.out.cell 0 rfl
  have bHA1 := HA.out.cell 1 rfl
  have bHA2 := HA.out.cell 2 rfl
  have bHA3 := HA.out.cell 3 rfl
  go_wp2_with fail
  refine (HC.out _ (by first | exact Below.refl _ _ | exact (Below.refl _ _).alloc (Nat.le_refl _) _ | exact (Below.refl _ _).drew)).mono ?_
  rintro e w3 ⟨rfl, hb⟩
  clear bHA0 bHA1 bHA2 bHA3
  have hbn : Below w2.heap.size w2 w3 := below_step (by first | exact Below.refl _ _ | exact (Below.refl _ _).alloc (Nat.le_refl _) _ | exact (Below.refl _ _).drew) hb
  have hs3 : Hid (w2.heap.size ≤ w3.heap.size) := hbn.size
  replace HV := Lib.hid (HV.out.kept hbn)
  replace HA := Lib.hid (HA.out.kept hbn)
  replace Hu := Lib.hid (Hu.out.kept hbn)
  replace HB := Lib.hid (HB.out.trans (hbn.mono HB.out.size))
  clear hb hbn HC
  have HC : Hid (∀ W, Below w3.heap.size w3 W → Calls Tryz.prog 14 #[.agg #[.string x.Input, .slice A1 x.Names.length c1, .slice A2 x.Rows.length c2, .slice A3 x.Marks.length c3]] W (TabPost x W)) := fun W hW => toTableau_any x _ _ _ _ _ _ W HSZ.out (HV.out.kept hW)
  have bHA0 := HA.out.cell 0 rfl
  have bHA1 := HA.out.cell 1 rfl
  have bHA2 := HA.out.cell 2 rfl
  have bHA3 := HA.out.cell 3 rfl
  go_wp2_with fail
  refine (HC.out _ (by first | exact Below.refl _ _ | exact (Below.refl _ _).alloc (Nat.le_refl _) _ | exact (Below.refl _ _).drew)).mono ?_
  rintro e w4 ⟨Ax1, cx1, Ax2, cx2, Ax3, cx3, Gx1, Gx2, Gx3, rfl, hq, hg, hb⟩
  clear bHA0 bHA1 bHA2 bHA3
  have hbn : Below w3.heap.size w3 w4 := below_step (by first | exact Below.refl _ _ | exact (Below.refl _ _).alloc (Nat.le_refl _) _ | exact (Below.refl _ _).drew) hb
  have hs4 : Hid (w3.heap.size ≤ w4.heap.size) := hbn.size
  replace HV := Lib.hid (HV.out.kept hbn)
  replace HA := Lib.hid (HA.out.kept hbn)
  replace Hu := Lib.hid (Hu.out.kept hbn)
  replace HB := Lib.hid (HB.out.trans (hbn.mono HB.out.size))
  have Hx := Lib.hid hq
  have Rx : Hid (∀ a, Gx1 a ∨ Gx2 a ∨ Gx3 a → w3.heap.size ≤ a.block ∧ a.block < w4.heap.size) := fun a ha => ⟨Nat.le_trans (Below.size (B := w3.heap.size) (w := w3) (by first | exact Below.refl _ _ | exact (Below.refl _ _).alloc (Nat.le_refl _) _ | exact (Below.refl _ _).drew)) (hg a ha).1, (hg a ha).2⟩
  clear hb hbn HC hq hg
  have HC : Hid (∀ W, Below w4.heap.size w4 W → Calls Tryz.prog 43 #[.agg #[.string x.Input, .slice Ax1 x.Names.length cx1, .slice Ax2 x.Rows.length cx2, .slice Ax3 x.Marks.length cx3], .string out] W fun e w' => e = .returned (.int .i64 (rowW x out)) ∧ Below W.heap.size W w') := fun W hW => implRw_any x Ax1 cx1 Ax2 cx2 Ax3 cx3 _ _ _  out W HSZ.out (Hx.out.kept hW).weak (feat_below HFT.out (HB.out.trans (hW.mono HB.out.size)))
  have bHA0 := HA.out.cell 0 rfl
  have bHA1 := HA.out.cell 1 rfl
  have bHA2 := HA.out.cell 2 rfl
  have bHA3 := HA.out.cell 3 rfl
  go_wp2_with fail
  refine (HC.out _ (by first | exact Below.refl _ _ | exact (Below.refl _ _).alloc (Nat.le_refl _) _ | exact (Below.refl _ _).drew)).mono ?_
  rintro e w5 ⟨rfl, hb⟩
  clear bHA0 bHA1 bHA2 bHA3
  have hbn : Below w4.heap.size w4 w5 := below_step (by first | exact Below.refl _ _ | exact (Below.refl _ _).alloc (Nat.le_refl _) _ | exact (Below.refl _ _).drew) hb
  have hs5 : Hid (w4.heap.size ≤ w5.heap.size) := hbn.size
  replace HV := Lib.hid (HV.out.kept hbn)
  replace HA := Lib.hid (HA.out.kept hbn)
  replace Hu := Lib.hid (Hu.out.kept hbn)
  replace Hx := Lib.hid (Hx.out.kept hbn)
  replace HB := Lib.hid (HB.out.trans (hbn.mono HB.out.size))
  have HX : Hid (InC w5 w4.heap.size #[.string x.Input, .slice Ax1 x.Names.length cx1, .slice Ax2 x.Rows.length cx2, .slice Ax3 x.Marks.length cx3] 32) := (hb.block _ (by simp)).trans (heap_alloc_new _ _)
  clear hb hbn HC
  generalize rowW x out = bb at *
  have HTO : Hid (∀ W, Below w5.heap.size w5 W → Calls Tryz.prog 14 #[.agg #[.string x.Input, .slice A1 x.Names.length c1, .slice A2 x.Rows.length c2, .slice A3 x.Marks.length c3]] W (TabPost x W)) := fun W hW => toTableau_any x _ _ _ _ _ _ W HSZ.out (HV.out.kept hW)
  have HEQ : Hid (∀ (W : World) (u1 u2 u3 : Value) (G1 G2 G3 : Addr → Prop), Below w5.heap.size w5 W → TabRd true W u1 u2 u3 x G1 G2 G3 → Calls Tryz.prog 18 #[.agg #[.string x.Input, .slice Ax1 x.Names.length cx1, .slice Ax2 x.Rows.length cx2, .slice Ax3 x.Marks.length cx3], .agg #[.string x.Input, u1, u2, u3]] W fun e w' => e = .returned (.bool true) ∧ Below W.heap.size W w') := fun W u1 u2 u3 G1 G2 G3 hW hu => eqTableau_any x _ _ _ _ _ _ _ _ _ _ _ _ W (Hx.out.kept hW).weak hu.weak
  have HXK : Hid (∀ W : World, Below w5.heap.size w5 W → InC W _ #[.string x.Input, .slice Ax1 x.Names.length cx1, .slice Ax2 x.Rows.length cx2, .slice Ax3 x.Marks.length cx3] 32) := fun W hW => HX.out.kept hW
  have bHA0 := HA.out.cell 0 rfl
  have bHA1 := HA.out.cell 1 rfl
  have bHA2 := HA.out.cell 2 rfl
  have bHA3 := HA.out.cell 3 rfl
  have bHX0 := HX.out.cell 0 rfl
  have bHX1 := HX.out.cell 1 rfl
  have bHX2 := HX.out.cell 2 rfl
  have bHX3 := HX.out.cell 3 rfl
  go_upto_region 12 with fail
  go_region_with (first | (go_simp; go_at_call 14; refine (HTO.out _ ((Below.refl _ _).drew)).mono ?_; rintro e wt ⟨At1, ct1, At2, ct2, At3, ct3, T1, T2, T3, rfl, hqt, hgt, hbt0⟩; have hbt : Below w5.heap.size w5 wt := below_step ((Below.refl _ _).drew) hbt0; have e0 := (HXK.out _ hbt).cell 0 rfl; have e1 := (HXK.out _ hbt).cell 1 rfl; have e2 := (HXK.out _ hbt).cell 2 rfl; have e3 := (HXK.out _ hbt).cell 3 rfl; have HBT := Lib.hid hbt; have HQT := Lib.hid hqt; clear hbt0 hqt hgt hbt) | (go_simp; go_at_call 18; refine (HEQ.out _ _ _ _ _ _ _ HBT.out HQT.out).mono ?_; rintro e wz ⟨rfl, hbz0⟩; have HBZ := Lib.hid (below_step HBT.out hbz0); clear hbz0))
  all_goals
    go_wp2
    go_ret
    exact ⟨rfl, HB.out.trans (HBZ.out.mono HB.out.size)⟩
end Go.Proofs.YtkaihnlknncfdaaGreatDoor.fnExactRowWith

/- The first rows of all profiles: plain mathematics. -/
namespace Go.Proofs.YtkaihnlknncfdaaGreatDoor
set_option maxRecDepth 100000
open Go.RowKit Go.Sort M
set_option linter.unusedVariables false
set_option linter.unusedSimpArgs false

/-- The k-th row's marks stand among those of the first j places of l. -/
def seenB (x : DTableau) (l : List Int) (k j : Nat) : Bool := (l.take j).any fun d => decide (x.Marks.getD d.toNat [] = x.Marks.getD k [])
theorem seenB_zero (x : DTableau) (l : List Int) (k : Nat) : seenB x l k 0 = false := rfl
theorem seenB_step {x : DTableau} {l : List Int} {k j : Nat} {d : Int} (h : l[j]? = some d) : seenB x l k (j + 1) = (seenB x l k j || decide (x.Marks.getD d.toNat [] = x.Marks.getD k [])) := by
  unfold seenB
  rw [List.take_add_one, h, List.any_append]
  simp
def distTo (x : DTableau) : Nat → List Int
  | 0 => []
  | k + 1 => if seenB x (distTo x k) k (distTo x k).length = true then distTo x k else distTo x k ++ [(k : Int)]
theorem distTo_mem (x : DTableau) : ∀ (k : Nat) (d : Int), d ∈ distTo x k → 0 ≤ d ∧ d < (k : Int)
  | 0, d, h => by simp [distTo] at h
  | k + 1, d, h => by
    unfold distTo at h
    split at h
    · have := distTo_mem x k d h; omega
    · rw [List.mem_append, List.mem_singleton] at h
      rcases h with h | h
      · have := distTo_mem x k d h; omega
      · omega
theorem distTo_len (x : DTableau) : ∀ k, (distTo x k).length ≤ k
  | 0 => by simp [distTo]
  | k + 1 => by
    have := distTo_len x k
    unfold distTo
    split
    · omega
    · rw [List.length_append, List.length_singleton]; omega
theorem distTo_yes {x : DTableau} {k : Nat} (h : seenB x (distTo x k) k (distTo x k).length = true) : distTo x (k + 1) = distTo x k := by rw [distTo, if_pos h]
theorem distTo_no {x : DTableau} {k : Nat} (h : seenB x (distTo x k) k (distTo x k).length = false) : distTo x (k + 1) = distTo x k ++ [(k : Int)] := by rw [distTo, if_neg (by rw [h]; simp)]
def distL (x : DTableau) : List Int := distTo x (rowsL x).length
theorem distL_no {x : DTableau} (h : isTab x = false) : distL x = [] := by unfold distL; rw [rowsL_no h]; rfl
theorem distL_yes {x : DTableau} (h : isTab x = true) : distL x = distTo x x.Rows.length := by unfold distL; rw [rowsL_len h]
theorem dist_i64 (x : DTableau) (k : Nat) (hk : k ≤ 1000000000) : ∀ z ∈ distTo x k, I64 z := fun z hz => by have := distTo_mem x k z hz; unfold I64; omega
theorem cellsI_N11 (l : List Int) : cellsI l = cellsN l := rfl
/-- An own row of numbers, laid open. -/
theorem own_ints {w : World} {base : Nat} {u : Value} {l : List Int} (h : w.ownsRow base 3 1 u l.length (cellsI l)) (hm : l.length ≤ 9223372036854775807) (hz : ∀ z ∈ l, I64 z) : RowRd Rep.int true w u l (fun a => base ≤ a.block) := RowRd.of_ints h hm hz
theorem own_keepI {w w' : World} {base : Nat} {u : Value} {n : Nat} {xs : List Value} (hb : Below w.heap.size w w') (h : w.ownsRow base 3 1 u n xs) : w'.ownsRow base 3 1 u n xs := by
  obtain ⟨h1, h2⟩ := h
  refine ⟨h1, ?_⟩
  rcases h2 with h2 | ⟨g, cap, cur, hv, hg, hh, r⟩
  · exact Or.inl h2
  · exact Or.inr ⟨g, cap, cur, hv, hg, (hb.block g (Array.getElem?_eq_some_iff.1 hh).1).trans hh, r⟩
theorem own_formI {w : World} {base n : Nat} {u : Value} {c : List Value} (h : w.ownsRow base 3 1 u n c) : ∃ A cap, u = .slice A n cap := by
  rcases h.2 with ⟨rfl, hn⟩ | ⟨g, cap, cur, rfl, _⟩
  · exact ⟨none, 0, by rw [hn]⟩
  · exact ⟨_, _, rfl⟩
def IntPost11 (l : List Int) (w : World) (e : Ending) (w' : World) : Prop := ∃ v, e = .returned v ∧ RowRd Rep.int true w' v l (fun a => w.heap.size ≤ a.block) ∧ Below w.heap.size w w'
end Go.Proofs.YtkaihnlknncfdaaGreatDoor

/- The model's DistinctProfiles: what it answers. -/
namespace Go.Proofs.YtkaihnlknncfdaaGreatDoor
set_option maxRecDepth 100000
open Go.RowKit Go.Sort M
set_option linter.unusedVariables false
set_option linter.unusedSimpArgs false

set_option maxHeartbeats 16000000 in
theorem specDist_any (x : DTableau) (A1 : Option Addr) (c1 : Nat) (A2 : Option Addr) (c2 : Nat) (A3 : Option Addr) (c3 : Nat) (F1 F2 F3 : Addr → Prop) (w : World) (hm : rTableau.sz x ≤ 1048576) (hv : TabRd false w (.slice A1 x.Names.length c1) (.slice A2 x.Rows.length c2) (.slice A3 x.Marks.length c3) x F1 F2 F3) :
    Calls Tryz.prog 44 #[.agg #[.string x.Input, .slice A1 x.Names.length c1, .slice A2 x.Rows.length c2, .slice A3 x.Marks.length c3]] w (IntPost11 (distL x) w) := by
  obtain ⟨hz0, hz1, hz2, hz3, hz4, hz5⟩ := szTab_parts hm
  have HV := Lib.hid hv
  have HIT : Hid (∀ W, Below w.heap.size w W → Calls Tryz.prog 40 #[.agg #[.string x.Input, .slice A1 x.Names.length c1, .slice A2 x.Rows.length c2, .slice A3 x.Marks.length c3]] W fun e w' => e = .returned (.bool (isTab x)) ∧ Below W.heap.size W w') := fun W hW => specTab_any x A1 c1 A2 c2 A3 c3 F1 F2 F3 W hm (hv.kept hW)
  have HP : Hid (∀ u w', RowRd Rep.int true w' u (distL x) (fun a => w.heap.size ≤ a.block) → Below w.heap.size w w' → IntPost11 (distL x) w (.returned u) w') := fun u w' h1 h2 => ⟨u, rfl, h1, h2⟩
  have HX3 : Hid (∀ k, k < x.Marks.length → ∃ y, x.Marks[k]? = some y ∧ x.Marks.getD k [] = y) := fun k hk => ⟨_, List.getElem?_eq_getElem hk, by rw [List.getD_eq_getElem?_getD, List.getElem?_eq_getElem hk]; rfl⟩
  have HNO : Hid (∀ b, isTab x = b → b = false → distL x = []) := fun b h1 h2 => distL_no (h1.trans h2)
  have HYE : Hid (∀ b, isTab x = b → b = true → distL x = distTo x x.Rows.length ∧ 1 ≤ x.Rows.length ∧ x.Marks.length = x.Rows.length) := fun b h1 h2 => by
    have h3 := headT_parts (headT_of (h1.trans h2))
    exact ⟨distL_yes (h1.trans h2), h3.2.2.1, h3.2.2.2.2⟩
  have HN2 := Lib.hid (HNO.out _ rfl)
  have HY2 := Lib.hid (HYE.out _ rfl)
  have HDM := Lib.hid (distTo_mem x)
  have HDL := Lib.hid (distTo_len x)
  have HDY : Hid (∀ k, seenB x (distTo x k) k (distTo x k).length = true → distTo x (k + 1) = distTo x k) := fun k h => distTo_yes h
  have HDN : Hid (∀ k, seenB x (distTo x k) k (distTo x k).length = false → distTo x (k + 1) = distTo x k ++ [(k : Int)]) := fun k h => distTo_no h
  have HI64 := Lib.hid (dist_i64 x)
  have HSS : Hid (∀ (l : List Int) (k j : Nat) (d : Int), l[j]? = some d → seenB x l k (j + 1) = (seenB x l k j || decide (x.Marks.getD d.toNat [] = x.Marks.getD k []))) := fun l k j d h => seenB_step h
  clear hv hz4 hz5 hm HNO HYE
  generalize isTab x = t at *
  have HA1 : Hid (InC ((w.alloc (.cells #[.string x.Input, .slice A1 x.Names.length c1, .slice A2 x.Rows.length c2, .slice A3 x.Marks.length c3] 32)).alloc (.cells #[] 3)) w.heap.size #[.string x.Input, .slice A1 x.Names.length c1, .slice A2 x.Rows.length c2, .slice A3 x.Marks.length c3] 32) := (heap_alloc_old _ _ (by simp)).trans (heap_alloc_new _ _)
  have HO0 : Hid (((w.alloc (.cells #[.string x.Input, .slice A1 x.Names.length c1, .slice A2 x.Rows.length c2, .slice A3 x.Marks.length c3] 32)).alloc (.cells #[] 3)).ownsRow (w.heap.size + 1) 3 1 (.slice (some ⟨w.heap.size + 1, 0, none⟩) 0 0) (distTo x 0).length (cellsI (distTo x 0))) := ⟨rfl, Or.inr ⟨w.heap.size + 1, 0, #[], rfl, Nat.le_refl _, by rw [show w.heap.size + 1 = (w.alloc (.cells #[.string x.Input, .slice A1 x.Names.length c1, .slice A2 x.Rows.length c2, .slice A3 x.Marks.length c3] 32)).heap.size by simp]; exact heap_alloc_new _ _, Nat.le_refl _, by unfold maxLen; omega, rfl, rfl⟩⟩
  have HB0 : Hid (Below w.heap.size w ((w.alloc (.cells #[.string x.Input, .slice A1 x.Names.length c1, .slice A2 x.Rows.length c2, .slice A3 x.Marks.length c3] 32)).alloc (.cells #[] 3))) := ((Below.refl _ _).alloc (Nat.le_refl _) _).alloc (by simp) _
  have HS1 : Hid (w.heap.size + 1 ≤ ((w.alloc (.cells #[.string x.Input, .slice A1 x.Names.length c1, .slice A2 x.Rows.length c2, .slice A3 x.Marks.length c3] 32)).alloc (.cells #[] 3)).heap.size) := by unfold Hid; simp
  go_enter Tryz.func44, Tryz.ntmps44
  go_wp2
  go_loopw [3, 4] (fun u i wr => ∃ (k : Nat), k ≤ x.Rows.length ∧ i = .int .i64 k ∧ wr.ownsRow (w.heap.size + 1) 3 1 u (distTo x k).length (cellsI (distTo x k)) ∧ (0 < k → t = true) ∧ InC wr w.heap.size #[.string x.Input, .slice A1 x.Names.length c1, .slice A2 x.Rows.length c2, .slice A3 x.Marks.length c3] 32 ∧ w.heap.size + 1 ≤ wr.heap.size ∧ Below w.heap.size w wr) (fun _ i _ => x.Rows.length - (intOf i).toNat)
  case atStart => exact ⟨0, by omega, rfl, HO0.out, fun h => by omega, HA1.out, HS1.out, HB0.out⟩
  case round =>
    obtain ⟨k, hk, rfl, hown, hpos, hbox, hsz, hbe0⟩ := hrel
    obtain ⟨w2, rfl⟩ : ∃ w2 : World, w2 = wr := ⟨_, rfl⟩
    have HB := Lib.hid hbe0
    have HBX := Lib.hid hbox
    have HOW := Lib.hid hown
    obtain ⟨Au, cu, rfl⟩ := own_formI hown
    have hdl := HDL.out k
    clear hbe0 hbox hown
    by_cases hkl : k < x.Rows.length
    · have b0 := HBX.out.cell 0 rfl
      have b1 := HBX.out.cell 1 rfl
      have b2 := HBX.out.cell 2 rfl
      have b3 := HBX.out.cell 3 rfl
      go_wp2_with fail
      refine (HIT.out _ HB.out).mono ?_
      rintro e w3 ⟨rfl, hb⟩
      have HB3 := Lib.hid (below_step HB.out hb)
      have HBX3 := Lib.hid (HBX.out.kept hb)
      have HO3 := Lib.hid (own_keepI hb HOW.out)
      have hsz3 := Nat.le_trans hsz hb.size
      clear hb b0 b1 b2 b3 HBX HOW
      cases t with
      | false =>
        have HN : Hid (distL x = distTo x k) := by
          have hk0 : k = 0 := by rcases Nat.eq_zero_or_pos k with h | h; exact h; exact absurd (hpos h) (by simp)
          unfold Hid; rw [HN2.out rfl, hk0]; rfl
        have HRR := Lib.hid ((own_ints HO3.out (by omega) (HI64.out k (by omega))).mono (G := fun a => w.heap.size ≤ a.block) (fun a ha => by omega))
        go_wp2_with fail
        go_ret
        exact HP.out _ _ (by rw [HN.out]; exact HRR.out) HB3.out
      | true =>
      obtain ⟨hdd, h1r, hml⟩ := HY2.out rfl
      have HDD := Lib.hid hdd
      have HML := Lib.hid hml
      obtain ⟨m, hmk, hmd⟩ := HX3.out k (by omega)
      obtain ⟨g3, o3, xs3, G3, rfl, -, hr3', -, hc3⟩ := (HV.out.marks.kept HB3.out).get hmk
      obtain ⟨v3, rfl, q3⟩ := id hr3'
      rw [show (Rep.row Rep.int).size = 1 from rfl] at hc3
      have d3 := hc3 0 _ rfl
      simp only [Nat.add_zero, Nat.mul_one] at d3
      have HC3 := Lib.hid d3
      have HQ3 := Lib.hid q3
      have HMD := Lib.hid hmd
      have HRU := Lib.hid ((own_ints HO3.out (by omega) (HI64.out k (by omega))).weak)
      have HSK := Lib.hid (HSS.out (distTo x k) k)
      have HDK := Lib.hid (HDM.out k)
      have HDYK := Lib.hid (HDY.out k)
      have HDNK := Lib.hid (HDN.out k)
      have hkr : (k : Int) < (x.Marks.length : Int) := by omega
      have hkm : k < x.Marks.length := by omega
      clear hmk hr3' hc3 d3 q3 hmd hml hdd h1r
      have HXI : Hid (∀ j, j < (distTo x k).length → ∃ d, (distTo x k)[j]? = some d) := fun j hj => ⟨_, List.getElem?_eq_getElem hj⟩
      generalize hln : (distTo x k).length = L at *
      go_wp2
      go_loopw [5, 6] (fun f i wr => ∃ (j : Nat), j ≤ L ∧ i = .int .i64 j ∧ f = .bool (seenB x (distTo x k) k j) ∧ Below w3.heap.size w3 wr) (fun _ i _ => L - (intOf i).toNat)
      case atStart => exact ⟨0, by omega, rfl, rfl, Below.refl _ _⟩
      case round =>
        obtain ⟨j, hj, rfl, rfl, hbi⟩ := hrel
        obtain ⟨w4, rfl⟩ : ∃ w4 : World, w4 = wr := ⟨_, rfl⟩
        have HBI := Lib.hid hbi
        clear hbi
        by_cases hjl : j < L
        · obtain ⟨d, hd⟩ := HXI.out j hjl
          have hdr := HDK.out d (List.mem_of_getElem? hd)
          have HST := Lib.hid (HSK.out j d hd)
          obtain ⟨dn, rfl⟩ : ∃ dn : Nat, d = (dn : Int) := ⟨d.toNat, by omega⟩
          rw [Int.toNat_natCast] at HST
          obtain ⟨m2, hm2, hmd2⟩ := HX3.out dn (by have := HML.out; omega)
          have HW4 := Lib.hid (below_step HB3.out HBI.out)
          obtain ⟨g4, o4, xs4, G4, hge, -, hr4', -, hc4⟩ := (HV.out.marks.kept HW4.out).get hm2
          cases hge
          obtain ⟨v4, rfl, q4⟩ := id hr4'
          rw [show (Rep.row Rep.int).size = 1 from rfl] at hc4
          have d4 := hc4 0 _ rfl
          simp only [Nat.add_zero, Nat.mul_one] at d4
          obtain ⟨gu, ou, xsu, Gu, rfl, -, hru', -, hcu⟩ := (HRU.out.kept HBI.out).get hd
          obtain ⟨rfl, -⟩ := id hru'
          rw [show Rep.int.size = 1 from rfl] at hcu
          have du := hcu 0 _ rfl
          simp only [Nat.add_zero, Nat.mul_one] at du
          have HB3' : Hid (∀ W : World, Below w4.heap.size w4 W → W.cell? ⟨w.heap.size, 3, none⟩ = some (.slice (some ⟨g3, o3, none⟩) x.Marks.length c3)) := fun W hW => ((HBX3.out.kept HBI.out).kept hW).cell 3 rfl
          have HCU : Hid (∀ W : World, Below w4.heap.size w4 W → W.cell? ⟨gu, ou + j, none⟩ = some (.int .i64 dn)) := fun W hW => cell_kept hW du
          have HC4 : Hid (∀ W : World, Below w4.heap.size w4 W → W.cell? ⟨g3, o3 + dn, none⟩ = some v4) := fun W hW => cell_kept hW d4
          have HC5 : Hid (∀ W : World, Below w4.heap.size w4 W → W.cell? ⟨g3, o3 + k, none⟩ = some v3) := fun W hW => cell_kept (below_step HBI.out hW) HC3.out
          have HSE : Hid (∀ W, Below w4.heap.size w4 W → Calls Tryz.prog 88 #[v4, v3] W fun e w' => e = .returned (.bool (decide (m2 = m))) ∧ Below W.heap.size W w') := fun W hW => specL11_any v4 v3 m2 m G4 G3 W (q4.kept hW) (HQ3.out.kept (below_step HBI.out hW))
          rw [hmd2, HMD.out] at HST
          have hjr : (j : Int) < (L : Int) := by omega
          have hdm : (dn : Int) < (x.Marks.length : Int) := by have := HML.out; omega
          have hdm2 : dn < x.Marks.length := by have := HML.out; omega
          clear hm2 hmd2 hr4' hc4 d4 q4 hru' hcu du hd
          generalize hsb : seenB x (distTo x k) k j = sb at *
          clear hsb
          go_upto_region 9 with fail
          refine wp_region_held_drew (S := fun w' => Below w4.heap.size w4 w') (by kernel_rfl) ((Below.refl _ _).drew) (fun hHeld => ?_)
          cases sb
          · refine' wpAnyH_take (i := 0) (oi := _) (v := ?v1) rfl ?hs1 ?hf1 ?hr1 ?hQ1 (Or.inl ⟨?hw1, ?hy1⟩) hHeld ?rest1
            case hs1 => kernel_rfl
            case hf1 => kernel_rfl
            case hr1 => kernel_rfl
            case hQ1 => exact fun _ _ _ h => h
            case hw1 => kernel_rfl
            case hy1 => (intro w' hw'; go_simp; try with_reducible rfl)
            (try change wpAnyH _ _ _ _ _ _ _ (Act.put _ (some 25) _) _)
            try simp only [Act.put, List.setIfInBounds_toArray, List.set_cons_zero, List.set_cons_succ]
            refine' wpAnyH_take (i := 1) (oi := _) (v := ?v2) rfl ?hs2 ?hf2 ?hr2 ?hQ2 (Or.inl ⟨?hw2, ?hy2⟩) hHeld ?rest2
            case hs2 => kernel_rfl
            case hf2 => kernel_rfl
            case hr2 => kernel_rfl
            case hQ2 => exact fun _ _ _ h => h
            case hw2 => kernel_rfl
            case hy2 => (intro w' hw'; go_simp; try with_reducible rfl)
            (try change wpAnyH _ _ _ _ _ _ _ (Act.put _ (some 26) _) _)
            try simp only [Act.put, List.setIfInBounds_toArray, List.set_cons_zero, List.set_cons_succ]
            refine' wpAnyH_take (i := 2) (oi := _) (v := ?v3) rfl ?hs3 ?hf3 ?hr3 ?hQ3 (Or.inl ⟨?hw3, ?hy3⟩) hHeld ?rest3
            case hs3 => kernel_rfl
            case hf3 => kernel_rfl
            case hr3 => kernel_rfl
            case hQ3 => exact fun _ _ _ h => h
            case hw3 => kernel_rfl
            case hy3 => (intro w' hw'; go_simp; try with_reducible rfl)
            (try change wpAnyH _ _ _ _ _ _ _ (Act.put _ (some 27) _) _)
            try simp only [Act.put, List.setIfInBounds_toArray, List.set_cons_zero, List.set_cons_succ]
            refine' wpAnyH_take (i := 3) (oi := _) (v := ?v4) rfl ?hs4 ?hf4 ?hr4 ?hQ4 (Or.inl ⟨?hw4, ?hy4⟩) hHeld ?rest4
            case hs4 => kernel_rfl
            case hf4 => kernel_rfl
            case hr4 => kernel_rfl
            case hQ4 => exact fun _ _ _ h => h
            case hw4 => kernel_rfl
            case hy4 => (intro w' hw'; have c1' := HB3'.out _ hw'; have c2' := HCU.out _ hw'; have c4' := HC4.out _ hw'; have c5' := HC5.out _ hw'; go_simp; try with_reducible rfl)
            (try change wpAnyH _ _ _ _ _ _ _ (Act.put _ (some 28) _) _)
            try simp only [Act.put, List.setIfInBounds_toArray, List.set_cons_zero, List.set_cons_succ]
            refine' wpAnyH_take (i := 4) (oi := _) (v := ?v5) rfl ?hs5 ?hf5 ?hr5 ?hQ5 (Or.inl ⟨?hw5, ?hy5⟩) hHeld ?rest5
            case hs5 => kernel_rfl
            case hf5 => kernel_rfl
            case hr5 => kernel_rfl
            case hQ5 => exact fun _ _ _ h => h
            case hw5 => kernel_rfl
            case hy5 => (intro w' hw'; go_simp; try with_reducible rfl)
            (try change wpAnyH _ _ _ _ _ _ _ (Act.put _ (some 29) _) _)
            try simp only [Act.put, List.setIfInBounds_toArray, List.set_cons_zero, List.set_cons_succ]
            refine' wpAnyH_take (i := 5) (oi := _) (v := ?v6) rfl ?hs6 ?hf6 ?hr6 ?hQ6 (Or.inl ⟨?hw6, ?hy6⟩) hHeld ?rest6
            case hs6 => kernel_rfl
            case hf6 => kernel_rfl
            case hr6 => kernel_rfl
            case hQ6 => exact fun _ _ _ h => h
            case hw6 => kernel_rfl
            case hy6 => (intro w' hw'; go_simp; try with_reducible rfl)
            (try change wpAnyH _ _ _ _ _ _ _ (Act.put _ (some 30) _) _)
            try simp only [Act.put, List.setIfInBounds_toArray, List.set_cons_zero, List.set_cons_succ]
            refine' wpAnyH_take (i := 6) (oi := _) (v := ?v7) rfl ?hs7 ?hf7 ?hr7 ?hQ7 (Or.inl ⟨?hw7, ?hy7⟩) hHeld ?rest7
            case hs7 => kernel_rfl
            case hf7 => kernel_rfl
            case hr7 => kernel_rfl
            case hQ7 => exact fun _ _ _ h => h
            case hw7 => kernel_rfl
            case hy7 => (intro w' hw'; go_simp; try with_reducible rfl)
            (try change wpAnyH _ _ _ _ _ _ _ (Act.put _ (some 31) _) _)
            try simp only [Act.put, List.setIfInBounds_toArray, List.set_cons_zero, List.set_cons_succ]
            refine' wpAnyH_take (i := 7) (oi := _) (v := ?v8) rfl ?hs8 ?hf8 ?hr8 ?hQ8 (Or.inl ⟨?hw8, ?hy8⟩) hHeld ?rest8
            case hs8 => kernel_rfl
            case hf8 => kernel_rfl
            case hr8 => kernel_rfl
            case hQ8 => exact fun _ _ _ h => h
            case hw8 => kernel_rfl
            case hy8 => (intro w' hw'; have c1' := HB3'.out _ hw'; have c2' := HCU.out _ hw'; have c4' := HC4.out _ hw'; have c5' := HC5.out _ hw'; go_simp; try with_reducible rfl)
            (try change wpAnyH _ _ _ _ _ _ _ (Act.put _ (some 32) _) _)
            try simp only [Act.put, List.setIfInBounds_toArray, List.set_cons_zero, List.set_cons_succ]
            refine' wpAnyH_take (i := 8) (oi := _) (v := ?v9) rfl ?hs9 ?hf9 ?hr9 ?hQ9 (Or.inl ⟨?hw9, ?hy9⟩) hHeld ?rest9
            case hs9 => kernel_rfl
            case hf9 => kernel_rfl
            case hr9 => kernel_rfl
            case hQ9 => exact fun _ _ _ h => h
            case hw9 => kernel_rfl
            case hy9 => (intro w' hw'; go_simp; try with_reducible rfl)
            (try change wpAnyH _ _ _ _ _ _ _ (Act.put _ (some 33) _) _)
            try simp only [Act.put, List.setIfInBounds_toArray, List.set_cons_zero, List.set_cons_succ]
            refine' wpAnyH_take (i := 9) (oi := _) (v := ?v10) rfl ?hs10 ?hf10 ?hr10 ?hQ10 (Or.inl ⟨?hw10, ?hy10⟩) hHeld ?rest10
            case hs10 => kernel_rfl
            case hf10 => kernel_rfl
            case hr10 => kernel_rfl
            case hQ10 => exact fun _ _ _ h => h
            case hw10 => kernel_rfl
            case hy10 => (intro w' hw'; have c1' := HB3'.out _ hw'; have c2' := HCU.out _ hw'; have c4' := HC4.out _ hw'; have c5' := HC5.out _ hw'; go_simp; try with_reducible rfl)
            (try change wpAnyH _ _ _ _ _ _ _ (Act.put _ (some 34) _) _)
            try simp only [Act.put, List.setIfInBounds_toArray, List.set_cons_zero, List.set_cons_succ]
            refine' wpAnyH_take (i := 10) (oi := _) (v := ?v11) rfl ?hs11 ?hf11 ?hr11 ?hQ11 (Or.inl ⟨?hw11, ?hy11⟩) hHeld ?rest11
            case hs11 => kernel_rfl
            case hf11 => kernel_rfl
            case hr11 => kernel_rfl
            case hQ11 => exact fun _ _ _ h => h
            case hw11 => kernel_rfl
            case hy11 => (intro w' hw'; go_simp; try with_reducible rfl)
            (try change wpAnyH _ _ _ _ _ _ _ (Act.put _ (some 35) _) _)
            try simp only [Act.put, List.setIfInBounds_toArray, List.set_cons_zero, List.set_cons_succ]
            refine' wpAnyH_take (i := 11) (oi := _) (v := ?v12) rfl ?hs12 ?hf12 ?hr12 ?hQ12 (Or.inl ⟨?hw12, ?hy12⟩) hHeld ?rest12
            case hs12 => kernel_rfl
            case hf12 => kernel_rfl
            case hr12 => kernel_rfl
            case hQ12 => exact fun _ _ _ h => h
            case hw12 => kernel_rfl
            case hy12 => (intro w' hw'; have c1' := HB3'.out _ hw'; have c2' := HCU.out _ hw'; have c4' := HC4.out _ hw'; have c5' := HC5.out _ hw'; go_simp; try with_reducible rfl)
            (try change wpAnyH _ _ _ _ _ _ _ (Act.put _ (some 36) _) _)
            try simp only [Act.put, List.setIfInBounds_toArray, List.set_cons_zero, List.set_cons_succ]
            refine' wpAnyH_take (i := 12) (oi := _) (v := ?v13) rfl ?hs13 ?hf13 ?hr13 ?hQ13 (Or.inl ⟨?hw13, ?hy13⟩) hHeld ?rest13
            case hs13 => kernel_rfl
            case hf13 => kernel_rfl
            case hr13 => kernel_rfl
            case hQ13 => exact fun _ _ _ h => h
            case hw13 => kernel_rfl
            case hy13 => (intro w' hw'; go_simp; try with_reducible rfl)
            (try change wpAnyH _ _ _ _ _ _ _ (Act.put _ (some 37) _) _)
            try simp only [Act.put, List.setIfInBounds_toArray, List.set_cons_zero, List.set_cons_succ]
            refine' wpAnyH_take (i := 13) (oi := _) (v := ?v14) rfl ?hs14 ?hf14 ?hr14 ?hQ14 (Or.inl ⟨?hw14, ?hy14⟩) hHeld ?rest14
            case hs14 => kernel_rfl
            case hf14 => kernel_rfl
            case hr14 => kernel_rfl
            case hQ14 => exact fun _ _ _ h => h
            case hw14 => kernel_rfl
            case hy14 => (intro w' hw'; go_simp; try with_reducible rfl)
            (try change wpAnyH _ _ _ _ _ _ _ (Act.put _ (some 38) _) _)
            try simp only [Act.put, List.setIfInBounds_toArray, List.set_cons_zero, List.set_cons_succ]
            refine' wpAnyH_take (i := 14) (oi := _) (v := ?v15) rfl ?hs15 ?hf15 ?hr15 ?hQ15 (Or.inl ⟨?hw15, ?hy15⟩) hHeld ?rest15
            case hs15 => kernel_rfl
            case hf15 => kernel_rfl
            case hr15 => kernel_rfl
            case hQ15 => exact fun _ _ _ h => h
            case hw15 => kernel_rfl
            case hy15 => (intro w' hw'; have c1' := HB3'.out _ hw'; have c2' := HCU.out _ hw'; have c4' := HC4.out _ hw'; have c5' := HC5.out _ hw'; go_simp; try with_reducible rfl)
            (try change wpAnyH _ _ _ _ _ _ _ (Act.put _ (some 39) _) _)
            try simp only [Act.put, List.setIfInBounds_toArray, List.set_cons_zero, List.set_cons_succ]
            refine wpAnyH_ready (rs := [15]) (by kernel_rfl) (by simp) ?_
            refine AllReadyH.cons rfl (fun K hK => ?_) AllReadyH.nil
            go_simp
            go_at_call 88; refine (HSE.out _ hHeld).mono ?_; rintro e wd ⟨rfl, hba⟩; have hbe := below_step hHeld hba; clear hba
            (try go_wp2_with fail)
            refine hK.out _ _ hbe (fun hHeld => ?_)
            clear hK K
            try simp only [Act.put, List.setIfInBounds_toArray, List.set_cons_zero, List.set_cons_succ]
            refine' wpAnyH_take (i := 16) (oi := _) (v := ?v16) rfl ?hs16 ?hf16 ?hr16 ?hQ16 (Or.inl ⟨?hw16, ?hy16⟩) hHeld ?rest16
            case hs16 => kernel_rfl
            case hf16 => kernel_rfl
            case hr16 => kernel_rfl
            case hQ16 => exact fun _ _ _ h => h
            case hw16 => kernel_rfl
            case hy16 => (intro w' hw'; go_simp; try with_reducible rfl)
            (try change wpAnyH _ _ _ _ _ _ _ (Act.put _ (some 41) _) _)
            try simp only [Act.put, List.setIfInBounds_toArray, List.set_cons_zero, List.set_cons_succ]
            refine' wpAnyH_take (i := 17) (oi := _) (v := ?v17) rfl ?hs17 ?hf17 ?hr17 ?hQ17 (Or.inl ⟨?hw17, ?hy17⟩) hHeld ?rest17
            case hs17 => kernel_rfl
            case hf17 => kernel_rfl
            case hr17 => kernel_rfl
            case hQ17 => exact fun _ _ _ h => h
            case hw17 => kernel_rfl
            case hy17 => (intro w' hw'; go_simp; try with_reducible rfl)
            (try change wpAnyH _ _ _ _ _ _ _ (Act.put _ (some 5) _) _)
            try simp only [Act.put, List.setIfInBounds_toArray, List.set_cons_zero, List.set_cons_succ]
            refine wpAnyH_done ?hdone18 ?hq18 _
            case hdone18 => kernel_rfl
            go_wp2
            go_roundw
            case rel => exact ⟨j + 1, by omega, by go_num, by rw [HST.out]; first | rfl | simp, below_step HBI.out hHeld⟩
            case measure => simp [intOf]; omega
          · refine' wpAnyH_take (i := 0) (oi := _) (v := ?v19) rfl ?hs19 ?hf19 ?hr19 ?hQ19 (Or.inl ⟨?hw19, ?hy19⟩) hHeld ?rest19
            case hs19 => kernel_rfl
            case hf19 => kernel_rfl
            case hr19 => kernel_rfl
            case hQ19 => exact fun _ _ _ h => h
            case hw19 => kernel_rfl
            case hy19 => (intro w' hw'; go_simp; try with_reducible rfl)
            (try change wpAnyH _ _ _ _ _ _ _ (Act.put _ (some 25) _) _)
            try simp only [Act.put, List.setIfInBounds_toArray, List.set_cons_zero, List.set_cons_succ]
            refine' wpAnyH_take (i := 1) (oi := _) (v := ?v20) rfl ?hs20 ?hf20 ?hr20 ?hQ20 (Or.inl ⟨?hw20, ?hy20⟩) hHeld ?rest20
            case hs20 => kernel_rfl
            case hf20 => kernel_rfl
            case hr20 => kernel_rfl
            case hQ20 => exact fun _ _ _ h => h
            case hw20 => kernel_rfl
            case hy20 => (intro w' hw'; go_simp; try with_reducible rfl)
            (try change wpAnyH _ _ _ _ _ _ _ (Act.put _ (some 26) _) _)
            try simp only [Act.put, List.setIfInBounds_toArray, List.set_cons_zero, List.set_cons_succ]
            refine' wpAnyH_take (i := 2) (oi := _) (v := undef) rfl ?hs21 ?hf21 ?hr21 ?hQ21 (Or.inr ⟨?hw21, rfl⟩) hHeld ?rest21
            case hs21 => kernel_rfl
            case hf21 => kernel_rfl
            case hr21 => kernel_rfl
            case hQ21 => exact fun _ _ _ h => h
            case hw21 => kernel_rfl
            (try change wpAnyH _ _ _ _ _ _ _ (Act.put _ (some 27) _) _)
            try simp only [Act.put, List.setIfInBounds_toArray, List.set_cons_zero, List.set_cons_succ]
            refine' wpAnyH_take (i := 3) (oi := _) (v := undef) rfl ?hs22 ?hf22 ?hr22 ?hQ22 (Or.inr ⟨?hw22, rfl⟩) hHeld ?rest22
            case hs22 => kernel_rfl
            case hf22 => kernel_rfl
            case hr22 => kernel_rfl
            case hQ22 => exact fun _ _ _ h => h
            case hw22 => kernel_rfl
            (try change wpAnyH _ _ _ _ _ _ _ (Act.put _ (some 28) _) _)
            try simp only [Act.put, List.setIfInBounds_toArray, List.set_cons_zero, List.set_cons_succ]
            refine' wpAnyH_take (i := 4) (oi := _) (v := undef) rfl ?hs23 ?hf23 ?hr23 ?hQ23 (Or.inr ⟨?hw23, rfl⟩) hHeld ?rest23
            case hs23 => kernel_rfl
            case hf23 => kernel_rfl
            case hr23 => kernel_rfl
            case hQ23 => exact fun _ _ _ h => h
            case hw23 => kernel_rfl
            (try change wpAnyH _ _ _ _ _ _ _ (Act.put _ (some 29) _) _)
            try simp only [Act.put, List.setIfInBounds_toArray, List.set_cons_zero, List.set_cons_succ]
            refine' wpAnyH_take (i := 5) (oi := _) (v := undef) rfl ?hs24 ?hf24 ?hr24 ?hQ24 (Or.inr ⟨?hw24, rfl⟩) hHeld ?rest24
            case hs24 => kernel_rfl
            case hf24 => kernel_rfl
            case hr24 => kernel_rfl
            case hQ24 => exact fun _ _ _ h => h
            case hw24 => kernel_rfl
            (try change wpAnyH _ _ _ _ _ _ _ (Act.put _ (some 30) _) _)
            try simp only [Act.put, List.setIfInBounds_toArray, List.set_cons_zero, List.set_cons_succ]
            refine' wpAnyH_take (i := 6) (oi := _) (v := undef) rfl ?hs25 ?hf25 ?hr25 ?hQ25 (Or.inr ⟨?hw25, rfl⟩) hHeld ?rest25
            case hs25 => kernel_rfl
            case hf25 => kernel_rfl
            case hr25 => kernel_rfl
            case hQ25 => exact fun _ _ _ h => h
            case hw25 => kernel_rfl
            (try change wpAnyH _ _ _ _ _ _ _ (Act.put _ (some 31) _) _)
            try simp only [Act.put, List.setIfInBounds_toArray, List.set_cons_zero, List.set_cons_succ]
            refine' wpAnyH_take (i := 7) (oi := _) (v := undef) rfl ?hs26 ?hf26 ?hr26 ?hQ26 (Or.inr ⟨?hw26, rfl⟩) hHeld ?rest26
            case hs26 => kernel_rfl
            case hf26 => kernel_rfl
            case hr26 => kernel_rfl
            case hQ26 => exact fun _ _ _ h => h
            case hw26 => kernel_rfl
            (try change wpAnyH _ _ _ _ _ _ _ (Act.put _ (some 32) _) _)
            try simp only [Act.put, List.setIfInBounds_toArray, List.set_cons_zero, List.set_cons_succ]
            refine' wpAnyH_take (i := 8) (oi := _) (v := undef) rfl ?hs27 ?hf27 ?hr27 ?hQ27 (Or.inr ⟨?hw27, rfl⟩) hHeld ?rest27
            case hs27 => kernel_rfl
            case hf27 => kernel_rfl
            case hr27 => kernel_rfl
            case hQ27 => exact fun _ _ _ h => h
            case hw27 => kernel_rfl
            (try change wpAnyH _ _ _ _ _ _ _ (Act.put _ (some 33) _) _)
            try simp only [Act.put, List.setIfInBounds_toArray, List.set_cons_zero, List.set_cons_succ]
            refine' wpAnyH_take (i := 9) (oi := _) (v := undef) rfl ?hs28 ?hf28 ?hr28 ?hQ28 (Or.inr ⟨?hw28, rfl⟩) hHeld ?rest28
            case hs28 => kernel_rfl
            case hf28 => kernel_rfl
            case hr28 => kernel_rfl
            case hQ28 => exact fun _ _ _ h => h
            case hw28 => kernel_rfl
            (try change wpAnyH _ _ _ _ _ _ _ (Act.put _ (some 34) _) _)
            try simp only [Act.put, List.setIfInBounds_toArray, List.set_cons_zero, List.set_cons_succ]
            refine' wpAnyH_take (i := 10) (oi := _) (v := undef) rfl ?hs29 ?hf29 ?hr29 ?hQ29 (Or.inr ⟨?hw29, rfl⟩) hHeld ?rest29
            case hs29 => kernel_rfl
            case hf29 => kernel_rfl
            case hr29 => kernel_rfl
            case hQ29 => exact fun _ _ _ h => h
            case hw29 => kernel_rfl
            (try change wpAnyH _ _ _ _ _ _ _ (Act.put _ (some 35) _) _)
            try simp only [Act.put, List.setIfInBounds_toArray, List.set_cons_zero, List.set_cons_succ]
            refine' wpAnyH_take (i := 11) (oi := _) (v := undef) rfl ?hs30 ?hf30 ?hr30 ?hQ30 (Or.inr ⟨?hw30, rfl⟩) hHeld ?rest30
            case hs30 => kernel_rfl
            case hf30 => kernel_rfl
            case hr30 => kernel_rfl
            case hQ30 => exact fun _ _ _ h => h
            case hw30 => kernel_rfl
            (try change wpAnyH _ _ _ _ _ _ _ (Act.put _ (some 36) _) _)
            try simp only [Act.put, List.setIfInBounds_toArray, List.set_cons_zero, List.set_cons_succ]
            refine' wpAnyH_take (i := 12) (oi := _) (v := undef) rfl ?hs31 ?hf31 ?hr31 ?hQ31 (Or.inr ⟨?hw31, rfl⟩) hHeld ?rest31
            case hs31 => kernel_rfl
            case hf31 => kernel_rfl
            case hr31 => kernel_rfl
            case hQ31 => exact fun _ _ _ h => h
            case hw31 => kernel_rfl
            (try change wpAnyH _ _ _ _ _ _ _ (Act.put _ (some 37) _) _)
            try simp only [Act.put, List.setIfInBounds_toArray, List.set_cons_zero, List.set_cons_succ]
            refine' wpAnyH_take (i := 13) (oi := _) (v := undef) rfl ?hs32 ?hf32 ?hr32 ?hQ32 (Or.inr ⟨?hw32, rfl⟩) hHeld ?rest32
            case hs32 => kernel_rfl
            case hf32 => kernel_rfl
            case hr32 => kernel_rfl
            case hQ32 => exact fun _ _ _ h => h
            case hw32 => kernel_rfl
            (try change wpAnyH _ _ _ _ _ _ _ (Act.put _ (some 38) _) _)
            try simp only [Act.put, List.setIfInBounds_toArray, List.set_cons_zero, List.set_cons_succ]
            refine' wpAnyH_take (i := 14) (oi := _) (v := undef) rfl ?hs33 ?hf33 ?hr33 ?hQ33 (Or.inr ⟨?hw33, rfl⟩) hHeld ?rest33
            case hs33 => kernel_rfl
            case hf33 => kernel_rfl
            case hr33 => kernel_rfl
            case hQ33 => exact fun _ _ _ h => h
            case hw33 => kernel_rfl
            (try change wpAnyH _ _ _ _ _ _ _ (Act.put _ (some 39) _) _)
            try simp only [Act.put, List.setIfInBounds_toArray, List.set_cons_zero, List.set_cons_succ]
            refine' wpAnyH_take (i := 15) (oi := _) (v := undef) rfl ?hs34 ?hf34 ?hr34 ?hQ34 (Or.inr ⟨?hw34, rfl⟩) hHeld ?rest34
            case hs34 => kernel_rfl
            case hf34 => kernel_rfl
            case hr34 => kernel_rfl
            case hQ34 => exact fun _ _ _ h => h
            case hw34 => kernel_rfl
            (try change wpAnyH _ _ _ _ _ _ _ (Act.put _ (some 40) _) _)
            try simp only [Act.put, List.setIfInBounds_toArray, List.set_cons_zero, List.set_cons_succ]
            refine' wpAnyH_take (i := 16) (oi := _) (v := ?v35) rfl ?hs35 ?hf35 ?hr35 ?hQ35 (Or.inl ⟨?hw35, ?hy35⟩) hHeld ?rest35
            case hs35 => kernel_rfl
            case hf35 => kernel_rfl
            case hr35 => kernel_rfl
            case hQ35 => exact fun _ _ _ h => h
            case hw35 => kernel_rfl
            case hy35 => (intro w' hw'; go_simp; try with_reducible rfl)
            (try change wpAnyH _ _ _ _ _ _ _ (Act.put _ (some 41) _) _)
            try simp only [Act.put, List.setIfInBounds_toArray, List.set_cons_zero, List.set_cons_succ]
            refine' wpAnyH_take (i := 17) (oi := _) (v := ?v36) rfl ?hs36 ?hf36 ?hr36 ?hQ36 (Or.inl ⟨?hw36, ?hy36⟩) hHeld ?rest36
            case hs36 => kernel_rfl
            case hf36 => kernel_rfl
            case hr36 => kernel_rfl
            case hQ36 => exact fun _ _ _ h => h
            case hw36 => kernel_rfl
            case hy36 => (intro w' hw'; go_simp; try with_reducible rfl)
            (try change wpAnyH _ _ _ _ _ _ _ (Act.put _ (some 5) _) _)
            try simp only [Act.put, List.setIfInBounds_toArray, List.set_cons_zero, List.set_cons_succ]
            refine wpAnyH_done ?hdone37 ?hq37 _
            case hdone37 => kernel_rfl
            go_wp2
            go_roundw
            case rel => exact ⟨j + 1, by omega, by go_num, by rw [HST.out]; first | rfl | simp, below_step HBI.out hHeld⟩
            case measure => simp [intOf]; omega
        · obtain rfl : j = L := by omega
          have HW4 := Lib.hid (below_step HB3.out HBI.out)
          have HO4 := Lib.hid (own_keepI HBI.out HO3.out)
          have HBX4 := Lib.hid (HBX3.out.kept HBI.out)
          have hsz4 := Nat.le_trans hsz3 HBI.out.size
          cases hsb : seenB x (distTo x k) k j with
          | true =>
            have HD1 := Lib.hid (HDYK.out hsb)
            have HO5 : Hid (w4.ownsRow (w.heap.size + 1) 3 1 (.slice Au j cu) (distTo x (k + 1)).length (cellsI (distTo x (k + 1)))) := by unfold Hid; rw [HD1.out, hln]; exact HO4.out
            go_wp2
            go_roundw
            case rel => exact ⟨k + 1, by omega, by go_num, HO5.out, (fun _ => by first | rfl | trivial), HBX4.out, hsz4, HW4.out⟩
            case measure => simp [intOf]; omega
          | false =>
            have HD1 := Lib.hid (HDNK.out hsb)
            have hj9 : j ≤ 1000000000 := by omega
            go_wp2_with (at_builtin; refine wpList_append_int w4 rfl (.tmp 44) (.tmp 46) rfl (w.heap.size + 1) (.slice Au j cu) j (distTo x k) rfl HO4.out (k : Int) rfl hj9 hsz4 ?_; intro v5 w5 hown5 hb5)
            have HO5 : Hid (w5.ownsRow (w.heap.size + 1) 3 1 v5 (distTo x (k + 1)).length (cellsI (distTo x (k + 1)))) := by unfold Hid; rw [HD1.out, List.length_append, hln]; exact hown5
            have HBX5 := Lib.hid (HBX4.out.keptB hb5 (by omega))
            have hsz5 := Nat.le_trans hsz4 hb5.size
            have HW5 := Lib.hid (HW4.out.trans (hb5.mono (by omega)))
            obtain ⟨A5, c5, rfl⟩ := own_formI hown5
            clear hown5 hb5
            go_wp2
            go_roundw
            case rel => exact ⟨k + 1, by omega, by go_num, HO5.out, (fun _ => by first | rfl | trivial), HBX5.out, hsz5, HW5.out⟩
            case measure => simp [intOf]; omega
    · obtain rfl : k = x.Rows.length := by omega
      have HN : Hid (distL x = distTo x x.Rows.length) := by
        unfold Hid
        cases t with
        | true => exact (HY2.out rfl).1
        | false =>
          have hk0 : x.Rows.length = 0 := by rcases Nat.eq_zero_or_pos x.Rows.length with h | h; exact h; exact absurd (hpos h) (by simp)
          rw [HN2.out rfl, hk0]; rfl
      have HRR := Lib.hid ((own_ints HOW.out (by omega) (HI64.out _ (by omega))).mono (G := fun a => w.heap.size ≤ a.block) (fun a ha => by omega))
      have b2 := HBX.out.cell 2 rfl
      go_wp2
      go_ret
      exact HP.out _ _ (by rw [HN.out]; exact HRR.out) HB.out
end Go.Proofs.YtkaihnlknncfdaaGreatDoor

/- Rows of marks compared (the program's). -/
namespace Go.Proofs.YtkaihnlknncfdaaGreatDoor
set_option maxRecDepth 100000
open Go.RowKit Go.Sort M
set_option linter.unusedVariables false
set_option linter.unusedSimpArgs false

set_option maxHeartbeats 1000000 in
theorem rowEq_any (v u : Value) (l m : List Int) (F G : Addr → Prop) (w : World) (hv : RowRd Rep.int false w v l F) (hu : RowRd Rep.int false w u m G) :
    Calls Tryz.prog 134 #[v, u] w fun e w' => e = .returned (.bool (decide (l = m))) ∧ Below w.heap.size w w' := by
  obtain ⟨A, cap, rfl⟩ := hv.form
  obtain ⟨A2, cap2, rfl⟩ := hu.form
  have hmx := hv.max
  have hmy := hu.max
  have HV := Lib.hid hv
  have HU := Lib.hid hu
  clear hv hu
  have HX : Hid (∀ k, k < l.length → ∃ x, l[k]? = some x) := fun k hk => ⟨_, List.getElem?_eq_getElem hk⟩
  have HY : Hid (∀ k, k < m.length → ∃ x, m[k]? = some x) := fun k hk => ⟨_, List.getElem?_eq_getElem hk⟩
  have HD : Hid (∀ (k : Nat) (x y : Int), l[k]? = some x → m[k]? = some y → ¬ x = y → ¬ l = m) := fun k x y h1 h2 h => ints_differ h1 h2 h
  have HL : Hid (¬ l.length = m.length → ¬ l = m) := fun h e => h (by rw [e])
  have HALL : Hid (l.length = m.length → (∀ k, k < l.length → l[k]? = m[k]?) → l = m) := list_same
  have HR : Hid ((l = m → decide (l = m) = true) ∧ (¬ l = m → decide (l = m) = false)) := ⟨fun h => decide_eq_true h, fun h => decide_eq_false h⟩
  generalize decide (l = m) = r at *
  generalize hln : l.length = n at *
  generalize hlm : m.length = n2 at *
  clear hln hlm
  go_enter Tryz.func134, Tryz.ntmps134
  by_cases hN : n = n2
  case neg =>
    have hN2 : ¬ (n : Int) = (n2 : Int) := by omega
    have HF := Lib.hid (HR.out.2 (HL.out hN))
    go_wp2
    go_ret
    exact ⟨ret_bool HF.out.symm, Below.refl _ _⟩
  subst hN
  go_wp2
  go_loopw [13] (fun i wr => ∃ (k : Nat), k ≤ n ∧ i = .int .i64 k ∧ Hid (∀ j, j < k → l[j]? = m[j]?) ∧ Below w.heap.size w wr) (fun i _ => n - (intOf i).toNat)
  case atStart => exact ⟨0, by omega, rfl, fun j hj => by omega, Below.refl _ _⟩
  case round =>
    obtain ⟨k, hk, rfl, hall, hbe⟩ := hrel
    have HBE := Lib.hid hbe
    clear hbe
    by_cases hkl : k < n
    · obtain ⟨x, hx⟩ := HX.out k hkl
      obtain ⟨y, hy⟩ := HY.out k hkl
      obtain ⟨g, off, xs, Fk, rfl, _, hrx, _, hcx⟩ := (HV.out.kept HBE.out).get hx
      obtain ⟨g2, off2, ys, Gk, rfl, _, hry, _, hcy⟩ := (HU.out.kept HBE.out).get hy
      obtain ⟨rfl, _⟩ := id hrx
      obtain ⟨rfl, _⟩ := id hry
      have c0 := hcx 0 _ rfl
      have d0 := hcy 0 _ rfl
      simp only [show Rep.int.size = 1 from rfl, Nat.mul_one, Nat.add_zero] at c0 d0
      have HDK := Lib.hid (HD.out k x y hx hy)
      have HEQ : Hid (x = y → ∀ j, j < k + 1 → l[j]? = m[j]?) := fun e j hj => by
        by_cases hjk : j = k
        · subst hjk; rw [hx, hy, e]
        · exact hall.out j (by omega)
      clear hcx hcy hrx hry hx hy
      by_cases hxy : x = y
      · have HE2 := Lib.hid (HEQ.out hxy)
        subst hxy
        go_wp2
        go_quiet (fail)
        go_wp2
        go_roundw
        case rel => exact ⟨k + 1, by omega, by go_num, HE2, ⟨HBE.out.os, HBE.out.tape, HBE.out.output, HBE.out.size, HBE.out.block⟩⟩
        case measure => simp [intOf]; omega
      · have HF := Lib.hid (HR.out.2 (HDK.out hxy))
        go_wp2
        go_quiet (fail)
        go_wp2
        go_ret
        exact ⟨ret_bool HF.out.symm, ⟨HBE.out.os, HBE.out.tape, HBE.out.output, HBE.out.size, HBE.out.block⟩⟩
    · obtain rfl : k = n := by omega
      have HF := Lib.hid (HR.out.1 (HALL.out (by trivial) (fun j hj => hall.out j hj)))
      go_wp2
      go_ret
      exact ⟨ret_bool HF.out.symm, HBE.out⟩
theorem marksEq_any (v u : Value) (l m : List Int) (F G : Addr → Prop) (w : World) (hv : RowRd Rep.int false w v l F) (hu : RowRd Rep.int false w u m G) :
    Calls Tryz.prog 96 #[v, u] w fun e w' => e = .returned (.bool (decide (l = m))) ∧ Below w.heap.size w w' := by
  have HC := Lib.hid (rowEq_any v u l m F G w hv hu)
  clear hv hu
  generalize decide (l = m) = r at *
  go_enter Tryz.func96, Tryz.ntmps96
  go_wp2_with fail
  refine HC.out.mono ?_
  rintro e w1 ⟨rfl, hb⟩
  have HB := Lib.hid hb
  clear hb
  go_wp2
  go_ret
  exact ⟨rfl, HB.out⟩
end Go.Proofs.YtkaihnlknncfdaaGreatDoor
