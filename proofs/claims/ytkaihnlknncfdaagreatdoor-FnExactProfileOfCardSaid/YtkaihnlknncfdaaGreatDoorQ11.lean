/- Merged: TeLink TeLinkS TeCandidate TeCandidateS TeIntS TeIntSS TeTableau IsTableauWalk Mr11. -/
import Derived.Test.YtkaihnlknncfdaaGreatDoorQ1
import Derived.WalkKit
import Derived.BigQuiet
import Derived.Lib.QuietBelow
import Derived.Test.YtkaihnlknncfdaaGreatDoorRows
import Derived.Test.YtkaihnlknncfdaaGreatDoorQ2
import Derived.Test.YtkaihnlknncfdaaGreatDoorQ10
import Derived.Test.YtkaihnlknncfdaaGreatDoorQ8
import Derived.Test.YtkaihnlknncfdaaGreatDoorQ9
import Derived.Deep.RegionWith
import Derived.Deep.DeepCutAuto
import Derived.Test.YtkaihnlknncfdaaGreatDoorQ4
import Derived.Test.YtkaihnlknncfdaaGreatDoorQ7
/- The laws' eqLink. -/
namespace Go.Proofs.YtkaihnlknncfdaaGreatDoor
set_option maxRecDepth 100000
open Go.RowKit Go.Sort
set_option linter.unusedVariables false
set_option linter.unusedSimpArgs false

theorem eqLink_any (x : DLink) (F G : Addr → Prop) (w : World) :
    Calls Tryz.prog 129 #[.agg #[.int .u8 (x.In.toNat : Int), .int .u8 (x.Out.toNat : Int)], .agg #[.int .u8 (x.In.toNat : Int), .int .u8 (x.Out.toNat : Int)]] w fun e w' => e = .returned (.bool true) ∧ Below w.heap.size w w' := by
  generalize x.In = y0 at *
  generalize x.Out = y1 at *
  go_enter Tryz.func129, Tryz.ntmps129
  go_wp2
  go_ret
  exact ⟨rfl, ((Below.refl _ _).alloc (Nat.le_refl _) _).alloc (by simp) _⟩
end Go.Proofs.YtkaihnlknncfdaaGreatDoor

/- The laws' eqLinkS. -/
namespace Go.Proofs.YtkaihnlknncfdaaGreatDoor
set_option maxRecDepth 100000
open Go.RowKit Go.Sort
set_option linter.unusedVariables false
set_option linter.unusedSimpArgs false

set_option maxHeartbeats 1000000 in
theorem eqLinkS_any (v u : Value) (l : List DLink) (F G : Addr → Prop) (w : World) (hv : RowRd rLink false w v l F) (hu : RowRd rLink false w u l G) :
    Calls Tryz.prog 83 #[v, u] w fun e w' => e = .returned (.bool true) ∧ Below w.heap.size w w' := by
  obtain ⟨A, cap, rfl⟩ := hv.form
  obtain ⟨A2, cap2, rfl⟩ := hu.form
  have hmx := hv.max
  have HV := Lib.hid hv
  have HU := Lib.hid hu
  clear hv hu
  have HX : Hid (∀ k, k < l.length → ∃ x, l[k]? = some x) := fun k hk => ⟨_, List.getElem?_eq_getElem hk⟩
  generalize hll : l.length = n at *
  clear hll
  go_enter Tryz.func83, Tryz.ntmps83
  go_wp2
  go_loopw [5] (fun i wr => ∃ (k : Nat), k ≤ n ∧ i = .int .i64 k ∧ Below w.heap.size w wr) (fun i _ => n - (intOf i).toNat)
  case atStart => exact ⟨0, by omega, rfl, Below.refl _ _⟩
  case round =>
    obtain ⟨k, hk, rfl, hbe⟩ := hrel
    have HBE := Lib.hid hbe
    clear hbe
    by_cases hkl : k < n
    · obtain ⟨x, hx⟩ := HX.out k hkl
      obtain ⟨g, off, xs, Fk, rfl, _, rc, _, hc⟩ := (HV.out.kept HBE.out).get hx
      obtain ⟨g2, off2, ys, Gk, rfl, _, rd, _, hd⟩ := (HU.out.kept HBE.out).get hx
      have eec := rLink_rd rc
      subst eec
      have eed := rLink_rd rd
      subst eed
      rw [rLink_size] at hc hd
      have c0 := fun d os => cell_regrown (hc 0 _ rfl) d os
      have c1 := fun d os => cell_regrown (hc 1 _ rfl) d os
      have d0 := fun d os => cell_regrown (hd 0 _ rfl) d os
      have d1 := fun d os => cell_regrown (hd 1 _ rfl) d os
      clear hc hd
      simp only [Nat.add_zero] at c0 d0
      have cS : ∀ d os, Calls Tryz.prog 129 #[.agg #[.int .u8 (x.In.toNat : Int), .int .u8 (x.Out.toNat : Int)], .agg #[.int .u8 (x.In.toNat : Int), .int .u8 (x.Out.toNat : Int)]] (grow (redrawn wr d) os) fun e w'' => e = .returned (.bool true) ∧ ∃ p : Regrown, w'' = grow (redrawn wr p.d) p.os :=
        fun d os => Calls.regrown_of (eqLink_any x Fk Gk _)
      clear  hx
      generalize x.In = y0 at *
      generalize x.Out = y1 at *
      go_wp2
      refine wp_region_quiet_below (by kernel_rfl) (by kernel_rfl) ?_
      repeat (quiet_step (exact cS _ _))
      refine wpQuiet_nil ?_
      intro _ hw'
      obtain ⟨⟨dq, osq⟩, hw''⟩ := hw'
      subst hw''
      go_wp2
      go_roundw
      case rel => exact ⟨k + 1, by omega, by go_num, HBE.out.trans ((below_regrown wr dq osq).mono HBE.out.size)⟩
      case measure => simp [intOf]; omega
    · obtain rfl : k = n := by omega
      go_wp2
      go_ret
      exact ⟨rfl, HBE.out⟩
end Go.Proofs.YtkaihnlknncfdaaGreatDoor

/- The laws' eqCandidate. -/
namespace Go.Proofs.YtkaihnlknncfdaaGreatDoor
set_option maxRecDepth 100000
open Go.RowKit Go.Sort
set_option linter.unusedVariables false
set_option linter.unusedSimpArgs false

theorem eqCandidate_any (x : DCandidate) (F G : Addr → Prop) (w : World) (v0 u0 : Value) (hv0 : RowRd rLink false w v0 x.Links F) (hu0 : RowRd rLink false w u0 x.Links G) :
    Calls Tryz.prog 38 #[.agg #[v0], .agg #[u0]] w fun e w' => e = .returned (.bool true) ∧ Below w.heap.size w w' := by
  have HR0 : Hid (∀ W, Below w.heap.size w W → Calls Tryz.prog 83 #[v0, u0] W fun e w' => e = .returned (.bool true) ∧ Below W.heap.size W w') := fun W hW => eqLinkS_any v0 u0 _ F G W (hv0.kept hW) (hu0.kept hW)
  clear hv0 hu0
  go_enter Tryz.func38, Tryz.ntmps38
  go_wp2_with fail
  refine (HR0.out _ (((Below.refl _ _).alloc (Nat.le_refl _) _).alloc (by simp) _)).mono ?_
  rintro e w1 ⟨rfl, hb1⟩
  have HB1 : Hid (Below w.heap.size w w1) := (((Below.refl _ _).alloc (Nat.le_refl _) _).alloc (by simp) _).trans (hb1.mono (by simp; try omega))
  have hA1 : w1.heap[w.heap.size]? = some (.cells #[v0] 55 (0, 0)) := (hb1.block _ (by simp; try omega)).trans (box1 _ _ _)
  have hB1 : w1.heap[w.heap.size + 1]? = some (.cells #[u0] 55 (0, 0)) := (hb1.block _ (by simp; try omega)).trans (box2 _ _ _)
  clear hb1
  go_wp2
  go_ret
  exact ⟨rfl, HB1.out⟩
end Go.Proofs.YtkaihnlknncfdaaGreatDoor

/- The laws' eqCandidateS. -/
namespace Go.Proofs.YtkaihnlknncfdaaGreatDoor
set_option maxRecDepth 100000
open Go.RowKit Go.Sort
set_option linter.unusedVariables false
set_option linter.unusedSimpArgs false

set_option maxHeartbeats 1000000 in
theorem eqCandidateS_any (v u : Value) (l : List DCandidate) (F G : Addr → Prop) (w : World) (hv : RowRd rCandidate false w v l F) (hu : RowRd rCandidate false w u l G) :
    Calls Tryz.prog 57 #[v, u] w fun e w' => e = .returned (.bool true) ∧ Below w.heap.size w w' := by
  obtain ⟨A, cap, rfl⟩ := hv.form
  obtain ⟨A2, cap2, rfl⟩ := hu.form
  have hmx := hv.max
  have HV := Lib.hid hv
  have HU := Lib.hid hu
  clear hv hu
  have HX : Hid (∀ k, k < l.length → ∃ x, l[k]? = some x) := fun k hk => ⟨_, List.getElem?_eq_getElem hk⟩
  generalize hll : l.length = n at *
  clear hll
  go_enter Tryz.func57, Tryz.ntmps57
  go_wp2
  go_loopw [5] (fun i wr => ∃ (k : Nat), k ≤ n ∧ i = .int .i64 k ∧ Below w.heap.size w wr) (fun i _ => n - (intOf i).toNat)
  case atStart => exact ⟨0, by omega, rfl, Below.refl _ _⟩
  case round =>
    obtain ⟨k, hk, rfl, hbe⟩ := hrel
    have HBE := Lib.hid hbe
    clear hbe
    by_cases hkl : k < n
    · obtain ⟨x, hx⟩ := HX.out k hkl
      obtain ⟨g, off, xs, Fk, rfl, _, rc, _, hc⟩ := (HV.out.kept HBE.out).get hx
      obtain ⟨g2, off2, ys, Gk, rfl, _, rd, _, hd⟩ := (HU.out.kept HBE.out).get hx
      obtain ⟨v0, rfl, qc0⟩ := rCandidate_rd rc
      obtain ⟨u0, rfl, qd0⟩ := rCandidate_rd rd
      rw [rCandidate_size] at hc hd
      have c0 := fun d os => cell_regrown (hc 0 _ rfl) d os
      have d0 := fun d os => cell_regrown (hd 0 _ rfl) d os
      clear hc hd
      simp only [Nat.add_zero, Nat.mul_one] at c0 d0
      have cS : ∀ d os, Calls Tryz.prog 38 #[.agg #[v0], .agg #[u0]] (grow (redrawn wr d) os) fun e w'' => e = .returned (.bool true) ∧ ∃ p : Regrown, w'' = grow (redrawn wr p.d) p.os :=
        fun d os => Calls.regrown_of (eqCandidate_any x Fk Gk _ v0 u0 (qc0.kept (below_regrown wr d os)) (qd0.kept (below_regrown wr d os)))
      clear qc0 qd0 hx
      go_wp2
      refine wp_region_quiet_below (by kernel_rfl) (by kernel_rfl) ?_
      repeat (quiet_step (exact cS _ _))
      refine wpQuiet_nil ?_
      intro _ hw'
      obtain ⟨⟨dq, osq⟩, hw''⟩ := hw'
      subst hw''
      go_wp2
      go_roundw
      case rel => exact ⟨k + 1, by omega, by go_num, HBE.out.trans ((below_regrown wr dq osq).mono HBE.out.size)⟩
      case measure => simp [intOf]; omega
    · obtain rfl : k = n := by omega
      go_wp2
      go_ret
      exact ⟨rfl, HBE.out⟩
end Go.Proofs.YtkaihnlknncfdaaGreatDoor

/- The laws' eqIntS. -/
namespace Go.Proofs.YtkaihnlknncfdaaGreatDoor
set_option maxRecDepth 100000
open Go.RowKit Go.Sort
set_option linter.unusedVariables false
set_option linter.unusedSimpArgs false

set_option maxHeartbeats 1000000 in
theorem eqIntS_any (v u : Value) (l : List Int) (F G : Addr → Prop) (w : World) (hv : RowRd Rep.int false w v l F) (hu : RowRd Rep.int false w u l G) :
    Calls Tryz.prog 17 #[v, u] w fun e w' => e = .returned (.bool true) ∧ Below w.heap.size w w' := by
  obtain ⟨A, cap, rfl⟩ := hv.form
  obtain ⟨A2, cap2, rfl⟩ := hu.form
  have hmx := hv.max
  have HV := Lib.hid hv
  have HU := Lib.hid hu
  clear hv hu
  have HX : Hid (∀ k, k < l.length → ∃ x, l[k]? = some x) := fun k hk => ⟨_, List.getElem?_eq_getElem hk⟩
  generalize hll : l.length = n at *
  clear hll
  go_enter Tryz.func17, Tryz.ntmps17
  go_wp2
  go_loopw [5] (fun i wr => ∃ (k : Nat), k ≤ n ∧ i = .int .i64 k ∧ Below w.heap.size w wr) (fun i _ => n - (intOf i).toNat)
  case atStart => exact ⟨0, by omega, rfl, Below.refl _ _⟩
  case round =>
    obtain ⟨k, hk, rfl, hbe⟩ := hrel
    have HBE := Lib.hid hbe
    clear hbe
    by_cases hkl : k < n
    · obtain ⟨x, hx⟩ := HX.out k hkl
      obtain ⟨g, off, xs, Fk, rfl, _, rc, _, hc⟩ := (HV.out.kept HBE.out).get hx
      obtain ⟨g2, off2, ys, Gk, rfl, _, rd, _, hd⟩ := (HU.out.kept HBE.out).get hx
      simp only [show Rep.int.size = 1 from rfl, Nat.mul_one] at hc hd
      obtain ⟨rfl, _⟩ := id rc
      obtain ⟨rfl, _⟩ := id rd
      have c0 := hc 0 _ rfl
      have d0 := hd 0 _ rfl
      simp only [Nat.add_zero] at c0 d0
      clear hc hd rc rd hx
      go_wp2
      go_quiet (fail)
      go_wp2
      go_roundw
      case rel => exact ⟨k + 1, by omega, by go_num, ⟨HBE.out.os, HBE.out.tape, HBE.out.output, HBE.out.size, HBE.out.block⟩⟩
      case measure => simp [intOf]; omega
    · obtain rfl : k = n := by omega
      go_wp2
      go_ret
      exact ⟨rfl, HBE.out⟩
end Go.Proofs.YtkaihnlknncfdaaGreatDoor

/- The laws' eqIntSS. -/
namespace Go.Proofs.YtkaihnlknncfdaaGreatDoor
set_option maxRecDepth 100000
open Go.RowKit Go.Sort
set_option linter.unusedVariables false
set_option linter.unusedSimpArgs false

set_option maxHeartbeats 1000000 in
theorem eqIntSS_any (v u : Value) (l : List (List Int)) (F G : Addr → Prop) (w : World) (hv : RowRd (Rep.row Rep.int) false w v l F) (hu : RowRd (Rep.row Rep.int) false w u l G) :
    Calls Tryz.prog 58 #[v, u] w fun e w' => e = .returned (.bool true) ∧ Below w.heap.size w w' := by
  obtain ⟨A, cap, rfl⟩ := hv.form
  obtain ⟨A2, cap2, rfl⟩ := hu.form
  have hmx := hv.max
  have HV := Lib.hid hv
  have HU := Lib.hid hu
  clear hv hu
  have HX : Hid (∀ k, k < l.length → ∃ x, l[k]? = some x) := fun k hk => ⟨_, List.getElem?_eq_getElem hk⟩
  generalize hll : l.length = n at *
  clear hll
  go_enter Tryz.func58, Tryz.ntmps58
  go_wp2
  go_loopw [5] (fun i wr => ∃ (k : Nat), k ≤ n ∧ i = .int .i64 k ∧ Below w.heap.size w wr) (fun i _ => n - (intOf i).toNat)
  case atStart => exact ⟨0, by omega, rfl, Below.refl _ _⟩
  case round =>
    obtain ⟨k, hk, rfl, hbe⟩ := hrel
    have HBE := Lib.hid hbe
    clear hbe
    by_cases hkl : k < n
    · obtain ⟨x, hx⟩ := HX.out k hkl
      obtain ⟨g, off, xs, Fk, rfl, _, rc, _, hc⟩ := (HV.out.kept HBE.out).get hx
      obtain ⟨g2, off2, ys, Gk, rfl, _, rd, _, hd⟩ := (HU.out.kept HBE.out).get hx
      simp only [show (Rep.row Rep.int).size = 1 from rfl, Nat.mul_one] at hc hd
      obtain ⟨v0, rfl, qc⟩ := id rc
      obtain ⟨u0, rfl, qd⟩ := id rd
      have c0 := hc 0 _ rfl
      have d0 := hd 0 _ rfl
      simp only [Nat.add_zero] at c0 d0
      have c0 := fun d os => cell_regrown c0 d os
      have d0 := fun d os => cell_regrown d0 d os
      have cS : ∀ d os, Calls Tryz.prog 17 #[v0, u0] (grow (redrawn wr d) os) fun e w'' => e = .returned (.bool true) ∧ ∃ p : Regrown, w'' = grow (redrawn wr p.d) p.os :=
        fun d os => Calls.regrown_of (eqIntS_any v0 u0 x Fk Gk _ (qc.kept (below_regrown wr d os)) (qd.kept (below_regrown wr d os)))
      clear hc hd rc rd hx qc qd
      go_wp2
      refine wp_region_quiet_below (by kernel_rfl) (by kernel_rfl) ?_
      repeat (quiet_step (exact cS _ _))
      refine wpQuiet_nil ?_
      intro _ hw'
      obtain ⟨⟨dq, osq⟩, hw''⟩ := hw'
      subst hw''
      go_wp2
      go_roundw
      case rel => exact ⟨k + 1, by omega, by go_num, HBE.out.trans ((below_regrown wr dq osq).mono HBE.out.size)⟩
      case measure => simp [intOf]; omega
    · obtain rfl : k = n := by omega
      go_wp2
      go_ret
      exact ⟨rfl, HBE.out⟩
end Go.Proofs.YtkaihnlknncfdaaGreatDoor

/- The laws' eqTableau. -/
namespace Go.Proofs.YtkaihnlknncfdaaGreatDoor
set_option maxRecDepth 100000
open Go.RowKit Go.Sort
set_option linter.unusedVariables false
set_option linter.unusedSimpArgs false

set_option maxHeartbeats 2000000 in
theorem eqTableau_any (x : DTableau) (v1 v2 v3 u1 u2 u3 : Value) (F1 F2 F3 G1 G2 G3 : Addr → Prop) (w : World) (hv : TabRd false w v1 v2 v3 x F1 F2 F3) (hu : TabRd false w u1 u2 u3 x G1 G2 G3) :
    Calls Tryz.prog 18 #[.agg #[.string x.Input, v1, v2, v3], .agg #[.string x.Input, u1, u2, u3]] w fun e w' => e = .returned (.bool true) ∧ Below w.heap.size w w' := by
  have HR1 : Hid (∀ W, Below w.heap.size w W → Calls Tryz.prog 24 #[v1, u1] W fun e w' => e = .returned (.bool true) ∧ Below W.heap.size W w') := fun W hW => eqStrs_any v1 u1 _ F1 G1 W (hv.names.kept hW) (hu.names.kept hW)
  have HR2 : Hid (∀ W, Below w.heap.size w W → Calls Tryz.prog 57 #[v2, u2] W fun e w' => e = .returned (.bool true) ∧ Below W.heap.size W w') := fun W hW => eqCandidateS_any v2 u2 _ F2 G2 W (hv.rows.kept hW) (hu.rows.kept hW)
  have HR3 : Hid (∀ W, Below w.heap.size w W → Calls Tryz.prog 58 #[v3, u3] W fun e w' => e = .returned (.bool true) ∧ Below W.heap.size W w') := fun W hW => eqIntSS_any v3 u3 _ F3 G3 W (hv.marks.kept hW) (hu.marks.kept hW)
  clear hv hu
  generalize x.Input = y0 at *
  go_enter Tryz.func18, Tryz.ntmps18
  go_wp2_with fail
  refine (HR1.out _ (((Below.refl _ _).alloc (Nat.le_refl _) _).alloc (by simp) _)).mono ?_
  rintro e w1 ⟨rfl, hb1⟩
  have HB1 : Hid (Below w.heap.size w w1) := (((Below.refl _ _).alloc (Nat.le_refl _) _).alloc (by simp) _).trans (hb1.mono (by simp; try omega))
  have hA1 : w1.heap[w.heap.size]? = some (.cells #[.string y0, v1, v2, v3] 32 (0, 0)) := (hb1.block _ (by simp; try omega)).trans (box1 _ _ _)
  have hB1 : w1.heap[w.heap.size + 1]? = some (.cells #[.string y0, u1, u2, u3] 32 (0, 0)) := (hb1.block _ (by simp; try omega)).trans (box2 _ _ _)
  have c2 := cell_in hA1 2 rfl
  have d2 := cell_in hB1 2 rfl
  clear hb1
  go_wp2_with fail
  refine (HR2.out _ (HB1.out)).mono ?_
  rintro e w2 ⟨rfl, hb2⟩
  have HB2 := Lib.hid (HB1.out.trans (hb2.mono HB1.out.size))
  have hA2 := (hb2.block _ (Array.getElem?_eq_some_iff.1 hA1).1).trans hA1
  have hB2 := (hb2.block _ (Array.getElem?_eq_some_iff.1 hB1).1).trans hB1
  clear hA1 hB1
  have c3 := cell_in hA2 3 rfl
  have d3 := cell_in hB2 3 rfl
  clear c2 d2
  clear hb2
  go_wp2_with fail
  refine (HR3.out _ (HB2.out)).mono ?_
  rintro e w3 ⟨rfl, hb3⟩
  have HB3 := Lib.hid (HB2.out.trans (hb3.mono HB2.out.size))
  have hA3 := (hb3.block _ (Array.getElem?_eq_some_iff.1 hA2).1).trans hA2
  have hB3 := (hb3.block _ (Array.getElem?_eq_some_iff.1 hB2).1).trans hB2
  clear hA2 hB2
  clear c3 d3
  clear hb3
  go_wp2
  go_ret
  exact ⟨rfl, HB3.out⟩
end Go.Proofs.YtkaihnlknncfdaaGreatDoor

/- The walk of FnExactIsTableau: it returns true at every argument. -/
namespace Go.Proofs.YtkaihnlknncfdaaGreatDoor.fnExactIsTableau
set_option maxRecDepth 100000
open Go.RowKit Go.Proofs.YtkaihnlknncfdaaGreatDoor M
set_option linter.unusedVariables false
set_option linter.unusedSimpArgs false

set_option maxHeartbeats 16000000 in
theorem walk (w : World) (hT : FeatTab w) (x : DTableau) (F1 F2 F3 : Addr → Prop) (v1 v2 v3 : Value) (hv : TabRd false w v1 v2 v3 x F1 F2 F3) :
    Calls Tryz.prog 8 #[.agg #[.string x.Input, v1, v2, v3]] w fun e w' => e = .returned (.bool true) ∧ Below w.heap.size w w' := by
  obtain ⟨A1, c1, rfl⟩ := hv.names.form
  obtain ⟨A2, c2, rfl⟩ := hv.rows.form
  obtain ⟨A3, c3, rfl⟩ := hv.marks.form
  have HV := Lib.hid hv.tight
  have HFT := Lib.hid hT
  clear hv hT
  have HB := Lib.hid (Below.refl w.heap.size w)
  go_enter Tryz.func8, Tryz.ntmps8
  have HC : Hid (∀ W, Below w.heap.size w W → Calls Tryz.prog 12 #[.agg #[.string x.Input, .slice A1 x.Names.length c1, .slice A2 x.Rows.length c2, .slice A3 x.Marks.length c3], .int .i64 1048576] W fun e w' => (∃ z : Int, e = .returned (.int .i64 z) ∧ (z < 0 ∨ z + (rTableau.sz x : Nat) = 1048576 ∧ 0 ≤ z)) ∧ Below W.heap.size W w') := fun W hW => szTableau_any x _ _ _ 1048576 _ _ _ W (by omega) (by omega) (HV.out.kept hW)
  go_wp2_with fail
  refine (HC.out _ (by first | exact Below.refl _ _ | exact (Below.refl _ _).alloc (Nat.le_refl _) _ | exact (Below.refl _ _).drew)).mono ?_
  rintro e w1 ⟨⟨z, rfl, hz⟩, hb⟩
  have hbn : Below w.heap.size w w1 := below_step (by first | exact Below.refl _ _ | exact (Below.refl _ _).alloc (Nat.le_refl _) _ | exact (Below.refl _ _).drew) hb
  have hs1 : Hid (w.heap.size ≤ w1.heap.size) := hbn.size
  replace HV := Lib.hid (HV.out.kept hbn)
  replace HB := Lib.hid (HB.out.trans (hbn.mono HB.out.size))
  have HA : Hid (InC w1 w.heap.size #[.string x.Input, .slice A1 x.Names.length c1, .slice A2 x.Rows.length c2, .slice A3 x.Marks.length c3] 26) := (hb.block _ (by simp)).trans (heap_alloc_new _ _)
  have HA0 : Hid (w.heap.size < w1.heap.size) := (HA.out.lt : _ < _)
  clear hb hbn HC
  by_cases hneg : z < 0
  case pos =>
    go_wp2
    go_ret
    exact ⟨rfl, HB.out⟩
  have HSZ : Hid (rTableau.sz x ≤ 1048576) := by unfold Hid; have := hz.resolve_left hneg; omega
  clear hz
  have HC : Hid (∀ W, Below w1.heap.size w1 W → Calls Tryz.prog 14 #[.agg #[.string x.Input, .slice A1 x.Names.length c1, .slice A2 x.Rows.length c2, .slice A3 x.Marks.length c3]] W (TabPost x W)) := fun W hW => toTableau_any x _ _ _ _ _ _ W HSZ.out (HV.out.kept hW)
  have bHA0 := HA.out.cell 0 rfl
  have bHA1 := HA.out.cell 1 rfl
  have bHA2 := HA.out.cell 2 rfl
  have bHA3 := HA.out.cell 3 rfl
  go_wp2_with fail
  refine (HC.out _ (by first | exact Below.refl _ _ | exact (Below.refl _ _).alloc (Nat.le_refl _) _ | exact (Below.refl _ _).drew)).mono ?_
  rintro e w2 ⟨Au1, cu1, Au2, cu2, Au3, cu3, Gu1, Gu2, Gu3, rfl, hq, hg, hb⟩
  clear bHA0 bHA1 bHA2 bHA3
  have hbn : Below w1.heap.size w1 w2 := below_step (by first | exact Below.refl _ _ | exact (Below.refl _ _).alloc (Nat.le_refl _) _ | exact (Below.refl _ _).drew) hb
  have hs2 : Hid (w1.heap.size ≤ w2.heap.size) := hbn.size
  replace HV := Lib.hid (HV.out.kept hbn)
  replace HA := Lib.hid (HA.out.kept hbn)
  replace HB := Lib.hid (HB.out.trans (hbn.mono HB.out.size))
  have Hu := Lib.hid hq
  have Ru : Hid (∀ a, Gu1 a ∨ Gu2 a ∨ Gu3 a → w1.heap.size ≤ a.block ∧ a.block < w2.heap.size) := fun a ha => ⟨Nat.le_trans (Below.size (B := w1.heap.size) (w := w1) (by first | exact Below.refl _ _ | exact (Below.refl _ _).alloc (Nat.le_refl _) _ | exact (Below.refl _ _).drew)) (hg a ha).1, (hg a ha).2⟩
  clear hb hbn HC hq hg
  have HC : Hid (∀ W, Below w2.heap.size w2 W → Calls Tryz.prog 40 #[.agg #[.string x.Input, .slice Au1 x.Names.length cu1, .slice Au2 x.Rows.length cu2, .slice Au3 x.Marks.length cu3]] W fun e w' => e = .returned (.bool (isTab x)) ∧ Below W.heap.size W w') := fun W hW => specTab_any x Au1 cu1 Au2 cu2 Au3 cu3 _ _ _  W HSZ.out (Hu.out.kept hW).weak
  have bHA0 := HA.out.cell 0 rfl
  have bHA1 := HA.out.cell 1 rfl
  have bHA2 := HA.out.cell 2 rfl
  have bHA3 := HA.out.cell 3 rfl
  go_wp2_with fail
  refine (HC.out _ (by first | exact Below.refl _ _ | exact (Below.refl _ _).alloc (Nat.le_refl _) _ | exact (Below.refl _ _).drew)).mono ?_
  rintro e w3 ⟨rfl, hb⟩
  clear bHA0 bHA1 bHA2 bHA3
  have hbn : Below w2.heap.size w2 w3 := below_step (by first | exact Below.refl _ _ | exact (Below.refl _ _).alloc (Nat.le_refl _) _ | exact (Below.refl _ _).drew) hb
  have hs3 : Hid (w2.heap.size ≤ w3.heap.size) := hbn.size
  replace HV := Lib.hid (HV.out.kept hbn)
  replace HA := Lib.hid (HA.out.kept hbn)
  replace Hu := Lib.hid (Hu.out.kept hbn)
  replace HB := Lib.hid (HB.out.trans (hbn.mono HB.out.size))
  clear hb hbn HC
  have HC : Hid (∀ W, Below w3.heap.size w3 W → Calls Tryz.prog 14 #[.agg #[.string x.Input, .slice A1 x.Names.length c1, .slice A2 x.Rows.length c2, .slice A3 x.Marks.length c3]] W (TabPost x W)) := fun W hW => toTableau_any x _ _ _ _ _ _ W HSZ.out (HV.out.kept hW)
  have bHA0 := HA.out.cell 0 rfl
  have bHA1 := HA.out.cell 1 rfl
  have bHA2 := HA.out.cell 2 rfl
  have bHA3 := HA.out.cell 3 rfl
  go_wp2_with fail
  refine (HC.out _ (by first | exact Below.refl _ _ | exact (Below.refl _ _).alloc (Nat.le_refl _) _ | exact (Below.refl _ _).drew)).mono ?_
  rintro e w4 ⟨Ax1, cx1, Ax2, cx2, Ax3, cx3, Gx1, Gx2, Gx3, rfl, hq, hg, hb⟩
  clear bHA0 bHA1 bHA2 bHA3
  have hbn : Below w3.heap.size w3 w4 := below_step (by first | exact Below.refl _ _ | exact (Below.refl _ _).alloc (Nat.le_refl _) _ | exact (Below.refl _ _).drew) hb
  have hs4 : Hid (w3.heap.size ≤ w4.heap.size) := hbn.size
  replace HV := Lib.hid (HV.out.kept hbn)
  replace HA := Lib.hid (HA.out.kept hbn)
  replace Hu := Lib.hid (Hu.out.kept hbn)
  replace HB := Lib.hid (HB.out.trans (hbn.mono HB.out.size))
  have Hx := Lib.hid hq
  have Rx : Hid (∀ a, Gx1 a ∨ Gx2 a ∨ Gx3 a → w3.heap.size ≤ a.block ∧ a.block < w4.heap.size) := fun a ha => ⟨Nat.le_trans (Below.size (B := w3.heap.size) (w := w3) (by first | exact Below.refl _ _ | exact (Below.refl _ _).alloc (Nat.le_refl _) _ | exact (Below.refl _ _).drew)) (hg a ha).1, (hg a ha).2⟩
  clear hb hbn HC hq hg
  have HC : Hid (∀ W, Below w4.heap.size w4 W → Calls Tryz.prog 41 #[.agg #[.string x.Input, .slice Ax1 x.Names.length cx1, .slice Ax2 x.Rows.length cx2, .slice Ax3 x.Marks.length cx3]] W fun e w' => e = .returned (.bool (isTab x)) ∧ Below W.heap.size W w') := fun W hW => implTab_any x Ax1 cx1 Ax2 cx2 Ax3 cx3 _ _ _  W HSZ.out (Hx.out.kept hW).weak (feat_below HFT.out (HB.out.trans (hW.mono HB.out.size)))
  have bHA0 := HA.out.cell 0 rfl
  have bHA1 := HA.out.cell 1 rfl
  have bHA2 := HA.out.cell 2 rfl
  have bHA3 := HA.out.cell 3 rfl
  go_wp2_with fail
  refine (HC.out _ (by first | exact Below.refl _ _ | exact (Below.refl _ _).alloc (Nat.le_refl _) _ | exact (Below.refl _ _).drew)).mono ?_
  rintro e w5 ⟨rfl, hb⟩
  clear bHA0 bHA1 bHA2 bHA3
  have hbn : Below w4.heap.size w4 w5 := below_step (by first | exact Below.refl _ _ | exact (Below.refl _ _).alloc (Nat.le_refl _) _ | exact (Below.refl _ _).drew) hb
  have hs5 : Hid (w4.heap.size ≤ w5.heap.size) := hbn.size
  replace HV := Lib.hid (HV.out.kept hbn)
  replace HA := Lib.hid (HA.out.kept hbn)
  replace Hu := Lib.hid (Hu.out.kept hbn)
  replace Hx := Lib.hid (Hx.out.kept hbn)
  replace HB := Lib.hid (HB.out.trans (hbn.mono HB.out.size))
  have HX : Hid (InC w5 w4.heap.size #[.string x.Input, .slice Ax1 x.Names.length cx1, .slice Ax2 x.Rows.length cx2, .slice Ax3 x.Marks.length cx3] 32) := (hb.block _ (by simp)).trans (heap_alloc_new _ _)
  clear hb hbn HC
  generalize isTab x = bb at *
  have HTO : Hid (∀ W, Below w5.heap.size w5 W → Calls Tryz.prog 14 #[.agg #[.string x.Input, .slice A1 x.Names.length c1, .slice A2 x.Rows.length c2, .slice A3 x.Marks.length c3]] W (TabPost x W)) := fun W hW => toTableau_any x _ _ _ _ _ _ W HSZ.out (HV.out.kept hW)
  have HEQ : Hid (∀ (W : World) (u1 u2 u3 : Value) (G1 G2 G3 : Addr → Prop), Below w5.heap.size w5 W → TabRd true W u1 u2 u3 x G1 G2 G3 → Calls Tryz.prog 18 #[.agg #[.string x.Input, .slice Ax1 x.Names.length cx1, .slice Ax2 x.Rows.length cx2, .slice Ax3 x.Marks.length cx3], .agg #[.string x.Input, u1, u2, u3]] W fun e w' => e = .returned (.bool true) ∧ Below W.heap.size W w') := fun W u1 u2 u3 G1 G2 G3 hW hu => eqTableau_any x _ _ _ _ _ _ _ _ _ _ _ _ W (Hx.out.kept hW).weak hu.weak
  have HXK : Hid (∀ W : World, Below w5.heap.size w5 W → InC W _ #[.string x.Input, .slice Ax1 x.Names.length cx1, .slice Ax2 x.Rows.length cx2, .slice Ax3 x.Marks.length cx3] 32) := fun W hW => HX.out.kept hW
  have bHA0 := HA.out.cell 0 rfl
  have bHA1 := HA.out.cell 1 rfl
  have bHA2 := HA.out.cell 2 rfl
  have bHA3 := HA.out.cell 3 rfl
  have bHX0 := HX.out.cell 0 rfl
  have bHX1 := HX.out.cell 1 rfl
  have bHX2 := HX.out.cell 2 rfl
  have bHX3 := HX.out.cell 3 rfl
  go_upto_region 10 with fail
  go_region_with (first | (go_simp; go_at_call 14; refine (HTO.out _ ((Below.refl _ _).drew)).mono ?_; rintro e wt ⟨At1, ct1, At2, ct2, At3, ct3, T1, T2, T3, rfl, hqt, hgt, hbt0⟩; have hbt : Below w5.heap.size w5 wt := below_step ((Below.refl _ _).drew) hbt0; have e0 := (HXK.out _ hbt).cell 0 rfl; have e1 := (HXK.out _ hbt).cell 1 rfl; have e2 := (HXK.out _ hbt).cell 2 rfl; have e3 := (HXK.out _ hbt).cell 3 rfl; have HBT := Lib.hid hbt; have HQT := Lib.hid hqt; clear hbt0 hqt hgt hbt) | (go_simp; go_at_call 18; refine (HEQ.out _ _ _ _ _ _ _ HBT.out HQT.out).mono ?_; rintro e wz ⟨rfl, hbz0⟩; have HBZ := Lib.hid (below_step HBT.out hbz0); clear hbz0))
  all_goals
    go_wp2
    go_ret
    exact ⟨rfl, HB.out.trans (HBZ.out.mono HB.out.size)⟩
end Go.Proofs.YtkaihnlknncfdaaGreatDoor.fnExactIsTableau

/- Rows that know their marks: data in memory, a row of them filled place by place. -/
namespace Go.Proofs.YtkaihnlknncfdaaGreatDoor
set_option maxRecDepth 100000
open Go.RowKit Go.Sort M
set_option linter.unusedVariables false
set_option linter.unusedSimpArgs false

/-- A candidate with its marks. -/
def rMk : Rep (DCandidate × List Int) := Rep.pair rCandidate (Rep.row Rep.int)
theorem rMk_size : rMk.size = 2 := rfl
theorem rMk_rd {s : Bool} {w : World} {vs : List Value} {x : DCandidate × List Int} {F : Addr → Prop} (h : rMk.rd s w vs x F) :
    ∃ v0 v1 F1 F2, vs = [v0, v1] ∧ RowRd rLink s w v0 x.1.Links F1 ∧ RowRd Rep.int s w v1 x.2 F2 ∧ (∀ a, F1 a → F a) ∧ (∀ a, F2 a → F a) ∧ (s = true → ∀ a, F1 a → ¬ F2 a) := by
  obtain ⟨a0, b0, F1, F2, rfl, h0, h1, k, l, d⟩ := h
  obtain ⟨v0, rfl, q0⟩ := rCandidate_rd h0
  obtain ⟨v1, rfl, q1⟩ := h1
  exact ⟨v0, v1, F1, F2, rfl, q0, q1, k, l, d⟩
theorem rMk_mk {s : Bool} {w : World} {x : DCandidate × List Int} {F F1 F2 : Addr → Prop} {v0 v1 : Value} (h0 : RowRd rLink s w v0 x.1.Links F1) (h1 : RowRd Rep.int s w v1 x.2 F2) (k : ∀ a, F1 a → F a) (l : ∀ a, F2 a → F a) (d : s = true → ∀ a, F1 a → ¬ F2 a) : rMk.rd s w [v0, v1] x F :=
  ⟨[v0], [v1], F1, F2, rfl, rCandidate_mk h0, ⟨v1, rfl, h1⟩, k, l, d⟩
def zMk : DCandidate × List Int := (zCandidate, [])
/-- The rows of a table with their marks; none if it is not valid. -/
def rowsL (x : DTableau) : List (DCandidate × List Int) := if isTab x then x.Rows.zip x.Marks else []
theorem rowsL_no {x : DTableau} (h : isTab x = false) : rowsL x = [] := by unfold rowsL; rw [h]; rfl
theorem rowsL_yes {x : DTableau} (h : isTab x = true) : rowsL x = x.Rows.zip x.Marks := by unfold rowsL; rw [if_pos h]
theorem rowsL_len {x : DTableau} (h : isTab x = true) : (rowsL x).length = x.Rows.length := by
  rw [rowsL_yes h, List.length_zip, (headT_parts (headT_of h)).2.2.2.2, Nat.min_self]
theorem rowsL_at {x : DTableau} (h : isTab x = true) {k : Nat} {c : DCandidate} {m : List Int} (h1 : x.Rows[k]? = some c) (h2 : x.Marks[k]? = some m) : (rowsL x)[k]? = some (c, m) := by
  rw [rowsL_yes h]
  exact List.getElem?_zip_eq_some.2 ⟨h1, h2⟩
theorem rowsL_of {x : DTableau} {k : Nat} {p : DCandidate × List Int} (h : (rowsL x)[k]? = some p) : isTab x = true ∧ x.Rows[k]? = some p.1 ∧ x.Marks[k]? = some p.2 := by
  cases ht : isTab x with
  | false => rw [rowsL_no ht] at h; simp at h
  | true =>
    rw [rowsL_yes ht] at h
    exact ⟨rfl, List.getElem?_zip_eq_some.1 h⟩
theorem cs_far2 {w : World} {g i j : Nat} {u v : Value} {p : Addr} (h : p.block ≠ g) : ((w.setCell ⟨g, i, none⟩ u).setCell ⟨g, j, none⟩ v).cell? p = w.cell? p :=
  (cs_other (fun e => h (by rw [← e]))).trans (cs_other (fun e => h (by rw [← e])))
section
variable {α : Type} {E : Rep α} {e : TypeId} {base g n cap : Nat} {w : World} {l : List α} {G : Addr → Prop}
/-- The two cells of an element of an own row. -/
theorem OwnRd.at2 {s : Bool} (hE : E.size = 2) (h : OwnRd E e s base w (.slice (some ⟨g, 0, none⟩) n cap) l G) (hn : l.length = n) {k : Nat} (hk : k < n) :
    (∃ a, w.cell? ⟨g, k * 2, none⟩ = some a) ∧ (∃ b, w.cell? ⟨g, k * 2 + 1, none⟩ = some b) ∧ w.frozen? ⟨g, k * 2, none⟩ = false ∧ w.frozen? ⟨g, k * 2 + 1, none⟩ = false := by
  obtain ⟨cells, Fk, hown, _⟩ := h
  subst hn
  rw [hE] at hown
  have hl := hown.1
  refine ⟨⟨_, (hown.cellAt (k * 2) (by omega)).trans (List.getElem?_eq_getElem (by omega))⟩, ⟨_, (hown.cellAt (k * 2 + 1) (by omega)).trans (List.getElem?_eq_getElem (by omega))⟩, hown.frozenAt _, hown.frozenAt _⟩
/-- An element of an own row is written. -/
theorem OwnRd.set2 (hE : E.size = 2) (h : OwnRd E e false base w (.slice (some ⟨g, 0, none⟩) n cap) l G) (hn : l.length = n) {k : Nat} (hk : k < n) {a b : Value} {x : α} {Fx : Addr → Prop} (hx : E.rd false w [a, b] x Fx) (hFx : ∀ p, Fx p → p.block < w.heap.size ∧ p.block ≠ g) :
    OwnRd E e false base ((w.setCell ⟨g, k * 2, none⟩ a).setCell ⟨g, k * 2 + 1, none⟩ b) (.slice (some ⟨g, 0, none⟩) n cap) (l.set k x) (fun p => G p ∨ Fx p) := by
  obtain ⟨cells, Fk, hown, he⟩ := h
  subst hn
  have hl := hown.1
  have h1 := (hown.stored (k * 2) a).1
  have h2 := (h1.stored (k * 2 + 1) b).1
  have hsz : ((w.setCell ⟨g, k * 2, none⟩ a).setCell ⟨g, k * 2 + 1, none⟩ b).heap.size = w.heap.size := by simp [World.setCell]
  have hfr : ∀ (P : Addr → Prop), (∀ p, P p → p.block ≠ g) → ∀ p, P p → ((w.setCell ⟨g, k * 2, none⟩ a).setCell ⟨g, k * 2 + 1, none⟩ b).cell? p = w.cell? p ∧ ((w.setCell ⟨g, k * 2, none⟩ a).setCell ⟨g, k * 2 + 1, none⟩ b).frozen? p = w.frozen? p := fun P hP p hp =>
    ⟨(cs_other (fun e => hP p hp (by rw [← e]))).trans (cs_other (fun e => hP p hp (by rw [← e]))), cs_frozen.trans cs_frozen⟩
  refine ⟨(cells.set (k * 2) a).set (k * 2 + 1) b, fun i => if i = k then Fx else Fk i, by rw [List.length_set]; exact h2, fun i y hi => ?_⟩
  by_cases hik : i = k
  · subst hik
    rw [List.getElem?_set_self hk] at hi
    cases hi
    refine ⟨[a, b], fun j u hj => ?_, ?_, ?_, fun hs => by cases hs⟩
    · rw [hE] at hl ⊢
      match j, hj with
      | 0, hj =>
        simp at hj; subst hj
        show ((cells.set (i * 2) a).set (i * 2 + 1) b)[i * 2]? = some a
        rw [List.getElem?_set_ne (by omega), List.getElem?_set_self (by omega)]
      | 1, hj =>
        simp at hj; subst hj
        show ((cells.set (i * 2) a).set (i * 2 + 1) b)[i * 2 + 1]? = some b
        rw [List.getElem?_set_self (by rw [List.length_set]; omega)]
    · simp only [if_true]
      exact E.frame hx (hfr _ fun p hp => (hFx p hp).2)
    · simp only [if_true]
      exact fun p hp => ⟨Or.inr hp, by rw [hsz]; exact (hFx p hp).1, by simp only [Value.ownBlock]; exact fun e => (hFx p hp).2 (Option.some.inj e).symm⟩
  · rw [List.getElem?_set_ne (Ne.symm hik)] at hi
    obtain ⟨ys, q1, q2, q3, _⟩ := he i y hi
    have hil : i < l.length := (List.getElem?_eq_some_iff.1 hi).1
    refine ⟨ys, fun j u hj => ?_, ?_, ?_, fun hs => by cases hs⟩
    · have hj2 : j < 2 := by rw [← hE, ← E.len q2]; exact (List.getElem?_eq_some_iff.1 hj).1
      have h5 := q1 j u hj
      rw [hE] at h5 ⊢
      rw [List.getElem?_set_ne (by omega), List.getElem?_set_ne (by omega)]
      exact h5
    · simp only [if_neg hik]
      exact E.frame q2 (hfr _ fun p hp e => (q3 p hp).2.2 (by rw [← e]; rfl))
    · simp only [if_neg hik]
      exact fun p hp => ⟨Or.inl (q3 p hp).1, by rw [hsz]; exact (q3 p hp).2.1, (q3 p hp).2.2⟩
end
/-- What rowsOf answers with. -/
def MkPost (x : DTableau) (w : World) (e : Ending) (w' : World) : Prop := ∃ u G, e = .returned u ∧ RowRd rMk false w' u (rowsL x) G ∧ Below w.heap.size w w'
end Go.Proofs.YtkaihnlknncfdaaGreatDoor
