/- Merged: TeIntS TeIntSS TeTableau TmStringS TmLinkS TmCandidateS TmIntS TmIntSS TmTableau. -/
import Derived.Test.YtkaihnlknncfdaaGreatDoorQ1
import Derived.WalkKit
import Derived.BigQuiet
import Derived.Lib.QuietBelow
import Derived.Test.YtkaihnlknncfdaaGreatDoorRows
import Derived.Test.YtkaihnlknncfdaaGreatDoorQ2
import Derived.Test.YtkaihnlknncfdaaGreatDoorQ12
/- The laws' eqIntS. -/
namespace Go.Proofs.YtkaihnlknncfdaaGreatDoor
set_option maxRecDepth 100000
open Go.RowKit Go.Sort
set_option linter.unusedVariables false
set_option linter.unusedSimpArgs false

set_option maxHeartbeats 1000000 in
theorem eqIntS_any (v u : Value) (l : List Int) (F G : Addr → Prop) (w : World) (hv : RowRd Rep.int false w v l F) (hu : RowRd Rep.int false w u l G) :
    Calls Tryz.prog 17 #[v, u] w fun e w' => e = .returned (.bool true) ∧ Below w.heap.size w w' := by
  obtain ⟨A, cap, rfl⟩ := hv.form
  obtain ⟨A2, cap2, rfl⟩ := hu.form
  have hmx := hv.max
  have HV := Lib.hid hv
  have HU := Lib.hid hu
  clear hv hu
  have HX : Hid (∀ k, k < l.length → ∃ x, l[k]? = some x) := fun k hk => ⟨_, List.getElem?_eq_getElem hk⟩
  generalize hll : l.length = n at *
  clear hll
  go_enter Tryz.func17, Tryz.ntmps17
  go_wp2
  go_loopw [5] (fun i wr => ∃ (k : Nat), k ≤ n ∧ i = .int .i64 k ∧ Below w.heap.size w wr) (fun i _ => n - (intOf i).toNat)
  case atStart => exact ⟨0, by omega, rfl, Below.refl _ _⟩
  case round =>
    obtain ⟨k, hk, rfl, hbe⟩ := hrel
    have HBE := Lib.hid hbe
    clear hbe
    by_cases hkl : k < n
    · obtain ⟨x, hx⟩ := HX.out k hkl
      obtain ⟨g, off, xs, Fk, rfl, _, rc, _, hc⟩ := (HV.out.kept HBE.out).get hx
      obtain ⟨g2, off2, ys, Gk, rfl, _, rd, _, hd⟩ := (HU.out.kept HBE.out).get hx
      simp only [show Rep.int.size = 1 from rfl, Nat.mul_one] at hc hd
      obtain ⟨rfl, _⟩ := id rc
      obtain ⟨rfl, _⟩ := id rd
      have c0 := hc 0 _ rfl
      have d0 := hd 0 _ rfl
      simp only [Nat.add_zero] at c0 d0
      clear hc hd rc rd hx
      go_wp2
      go_quiet (fail)
      go_wp2
      go_roundw
      case rel => exact ⟨k + 1, by omega, by go_num, ⟨HBE.out.os, HBE.out.tape, HBE.out.output, HBE.out.size, HBE.out.block⟩⟩
      case measure => simp [intOf]; omega
    · obtain rfl : k = n := by omega
      go_wp2
      go_ret
      exact ⟨rfl, HBE.out⟩
end Go.Proofs.YtkaihnlknncfdaaGreatDoor

/- The laws' eqIntSS. -/
namespace Go.Proofs.YtkaihnlknncfdaaGreatDoor
set_option maxRecDepth 100000
open Go.RowKit Go.Sort
set_option linter.unusedVariables false
set_option linter.unusedSimpArgs false

set_option maxHeartbeats 1000000 in
theorem eqIntSS_any (v u : Value) (l : List (List Int)) (F G : Addr → Prop) (w : World) (hv : RowRd (Rep.row Rep.int) false w v l F) (hu : RowRd (Rep.row Rep.int) false w u l G) :
    Calls Tryz.prog 58 #[v, u] w fun e w' => e = .returned (.bool true) ∧ Below w.heap.size w w' := by
  obtain ⟨A, cap, rfl⟩ := hv.form
  obtain ⟨A2, cap2, rfl⟩ := hu.form
  have hmx := hv.max
  have HV := Lib.hid hv
  have HU := Lib.hid hu
  clear hv hu
  have HX : Hid (∀ k, k < l.length → ∃ x, l[k]? = some x) := fun k hk => ⟨_, List.getElem?_eq_getElem hk⟩
  generalize hll : l.length = n at *
  clear hll
  go_enter Tryz.func58, Tryz.ntmps58
  go_wp2
  go_loopw [5] (fun i wr => ∃ (k : Nat), k ≤ n ∧ i = .int .i64 k ∧ Below w.heap.size w wr) (fun i _ => n - (intOf i).toNat)
  case atStart => exact ⟨0, by omega, rfl, Below.refl _ _⟩
  case round =>
    obtain ⟨k, hk, rfl, hbe⟩ := hrel
    have HBE := Lib.hid hbe
    clear hbe
    by_cases hkl : k < n
    · obtain ⟨x, hx⟩ := HX.out k hkl
      obtain ⟨g, off, xs, Fk, rfl, _, rc, _, hc⟩ := (HV.out.kept HBE.out).get hx
      obtain ⟨g2, off2, ys, Gk, rfl, _, rd, _, hd⟩ := (HU.out.kept HBE.out).get hx
      simp only [show (Rep.row Rep.int).size = 1 from rfl, Nat.mul_one] at hc hd
      obtain ⟨v0, rfl, qc⟩ := id rc
      obtain ⟨u0, rfl, qd⟩ := id rd
      have c0 := hc 0 _ rfl
      have d0 := hd 0 _ rfl
      simp only [Nat.add_zero] at c0 d0
      have c0 := fun d os => cell_regrown c0 d os
      have d0 := fun d os => cell_regrown d0 d os
      have cS : ∀ d os, Calls Tryz.prog 17 #[v0, u0] (grow (redrawn wr d) os) fun e w'' => e = .returned (.bool true) ∧ ∃ p : Regrown, w'' = grow (redrawn wr p.d) p.os :=
        fun d os => Calls.regrown_of (eqIntS_any v0 u0 x Fk Gk _ (qc.kept (below_regrown wr d os)) (qd.kept (below_regrown wr d os)))
      clear hc hd rc rd hx qc qd
      go_wp2
      refine wp_region_quiet_below (by kernel_rfl) (by kernel_rfl) ?_
      repeat (quiet_step (exact cS _ _))
      refine wpQuiet_nil ?_
      intro _ hw'
      obtain ⟨⟨dq, osq⟩, hw''⟩ := hw'
      subst hw''
      go_wp2
      go_roundw
      case rel => exact ⟨k + 1, by omega, by go_num, HBE.out.trans ((below_regrown wr dq osq).mono HBE.out.size)⟩
      case measure => simp [intOf]; omega
    · obtain rfl : k = n := by omega
      go_wp2
      go_ret
      exact ⟨rfl, HBE.out⟩
end Go.Proofs.YtkaihnlknncfdaaGreatDoor

/- The laws' eqTableau. -/
namespace Go.Proofs.YtkaihnlknncfdaaGreatDoor
set_option maxRecDepth 100000
open Go.RowKit Go.Sort
set_option linter.unusedVariables false
set_option linter.unusedSimpArgs false

set_option maxHeartbeats 2000000 in
theorem eqTableau_any (x : DTableau) (v1 v2 v3 u1 u2 u3 : Value) (F1 F2 F3 G1 G2 G3 : Addr → Prop) (w : World) (hv : TabRd false w v1 v2 v3 x F1 F2 F3) (hu : TabRd false w u1 u2 u3 x G1 G2 G3) :
    Calls Tryz.prog 18 #[.agg #[.string x.Input, v1, v2, v3], .agg #[.string x.Input, u1, u2, u3]] w fun e w' => e = .returned (.bool true) ∧ Below w.heap.size w w' := by
  have HR1 : Hid (∀ W, Below w.heap.size w W → Calls Tryz.prog 24 #[v1, u1] W fun e w' => e = .returned (.bool true) ∧ Below W.heap.size W w') := fun W hW => eqStrs_any v1 u1 _ F1 G1 W (hv.names.kept hW) (hu.names.kept hW)
  have HR2 : Hid (∀ W, Below w.heap.size w W → Calls Tryz.prog 57 #[v2, u2] W fun e w' => e = .returned (.bool true) ∧ Below W.heap.size W w') := fun W hW => eqCandidateS_any v2 u2 _ F2 G2 W (hv.rows.kept hW) (hu.rows.kept hW)
  have HR3 : Hid (∀ W, Below w.heap.size w W → Calls Tryz.prog 58 #[v3, u3] W fun e w' => e = .returned (.bool true) ∧ Below W.heap.size W w') := fun W hW => eqIntSS_any v3 u3 _ F3 G3 W (hv.marks.kept hW) (hu.marks.kept hW)
  clear hv hu
  generalize x.Input = y0 at *
  go_enter Tryz.func18, Tryz.ntmps18
  go_wp2_with fail
  refine (HR1.out _ (((Below.refl _ _).alloc (Nat.le_refl _) _).alloc (by simp) _)).mono ?_
  rintro e w1 ⟨rfl, hb1⟩
  have HB1 : Hid (Below w.heap.size w w1) := (((Below.refl _ _).alloc (Nat.le_refl _) _).alloc (by simp) _).trans (hb1.mono (by simp; try omega))
  have hA1 : w1.heap[w.heap.size]? = some (.cells #[.string y0, v1, v2, v3] 32 (0, 0)) := (hb1.block _ (by simp; try omega)).trans (box1 _ _ _)
  have hB1 : w1.heap[w.heap.size + 1]? = some (.cells #[.string y0, u1, u2, u3] 32 (0, 0)) := (hb1.block _ (by simp; try omega)).trans (box2 _ _ _)
  have c2 := cell_in hA1 2 rfl
  have d2 := cell_in hB1 2 rfl
  clear hb1
  go_wp2_with fail
  refine (HR2.out _ (HB1.out)).mono ?_
  rintro e w2 ⟨rfl, hb2⟩
  have HB2 := Lib.hid (HB1.out.trans (hb2.mono HB1.out.size))
  have hA2 := (hb2.block _ (Array.getElem?_eq_some_iff.1 hA1).1).trans hA1
  have hB2 := (hb2.block _ (Array.getElem?_eq_some_iff.1 hB1).1).trans hB1
  clear hA1 hB1
  have c3 := cell_in hA2 3 rfl
  have d3 := cell_in hB2 3 rfl
  clear c2 d2
  clear hb2
  go_wp2_with fail
  refine (HR3.out _ (HB2.out)).mono ?_
  rintro e w3 ⟨rfl, hb3⟩
  have HB3 := Lib.hid (HB2.out.trans (hb3.mono HB2.out.size))
  have hA3 := (hb3.block _ (Array.getElem?_eq_some_iff.1 hA2).1).trans hA2
  have hB3 := (hb3.block _ (Array.getElem?_eq_some_iff.1 hB2).1).trans hB2
  clear hA2 hB2
  clear c3 d3
  clear hb3
  go_wp2
  go_ret
  exact ⟨rfl, HB3.out⟩
end Go.Proofs.YtkaihnlknncfdaaGreatDoor

/- The laws' markStringS. -/
namespace Go.Proofs.YtkaihnlknncfdaaGreatDoor
set_option maxRecDepth 100000
open Go.RowKit Go.Sort M
set_option linter.unusedVariables false
set_option linter.unusedSimpArgs false

theorem mkD_len : ∀ (f c : Nat) (out : List UInt8), (mkD f c out).length ≤ f + out.length
  | 0, _, out => by unfold mkD; omega
  | f + 1, c, out => by
    unfold mkD
    split
    · omega
    · have := mkD_len f (c / 10) (byt ((48 + c % 10 : Nat) : Int) :: out)
      simp only [List.length_cons] at this
      omega
theorem mkT_size (k : Nat) : (mkT k).size ≤ 9223372036854775807 := by
  have := mkD_len 20 k []
  have h2 : (mkT k).size = (mkD 20 k []).length + 1 := rfl
  simp only [List.length_nil] at this
  omega
set_option maxHeartbeats 2000000 in
theorem markStrs_any (v : Value) (l : List ByteArray) (z : Int) (k0 : Nat) (hz : z = (k0 : Int)) (base : Nat) (F0 : Addr → Prop) (w : World) (hF0 : ∀ a, F0 a → base ≤ a.block) (hk : k0 + cntRow (Rep.str mkT) l ≤ 1000000000) (h1k : 1 ≤ k0) (hbase : base ≤ w.heap.size) (hv0 : RowRd (Rep.str mkT) true w v l F0) :
    Calls Tryz.prog 25 #[v, .int .i64 z] w fun e w' => e = .returned (.int .i64 ((k0 + cntRow (Rep.str mkT) l : Nat) : Int)) ∧ RowRd (Rep.str mkT) true w' v (labRow (Rep.str mkT) k0 l) F0 ∧ Unch F0 w w' ∧ Below base w w' := by
  subst hz
  have hv := hv0.tight
  have HG : Hid (∀ a, (F0 a ∧ a.block < w.heap.size) → F0 a) := fun _ h => h.1
  have HFS : Hid (∀ a, (F0 a ∧ a.block < w.heap.size) → a.block < w.heap.size) := fun _ h => h.2
  have HFB : Hid (∀ a, (F0 a ∧ a.block < w.heap.size) → base ≤ a.block) := fun a h => hF0 a h.1
  generalize hF : (fun a => F0 a ∧ a.block < w.heap.size) = F at hv
  have HG : Hid (∀ a, F a → F0 a) := by subst hF; exact HG
  have HFS : Hid (∀ a, F a → a.block < w.heap.size) := by subst hF; exact HFS
  have HFB : Hid (∀ a, F a → base ≤ a.block) := by subst hF; exact HFB
  clear hF hF0
  have hmx := hv.max
  have HMX := Lib.hid hmx
  obtain ⟨A, cap, rfl⟩ := hv.form
  have HV := Lib.hid hv
  clear hv hv0
  have HX : Hid (∀ k, k < l.length → ∃ x, l[k]? = some x) := fun k hk => ⟨_, List.getElem?_eq_getElem hk⟩
  have HEND : Hid (labTo (Rep.str mkT) k0 l l.length = labRow (Rep.str mkT) k0 l ∧ cntTo (Rep.str mkT) l l.length = cntRow (Rep.str mkT) l) := ⟨labTo_all _ _ _, cntTo_all _ _⟩
  have HLE := Lib.hid (cntTo_le (Rep.str mkT) l)
  have H0 := Lib.hid (labTo_zero (Rep.str mkT) k0 l)
  have H00 : Hid (cntTo (Rep.str mkT) l 0 = 0) := rfl
  generalize hll : l.length = n at *
  clear hll
  generalize cntRow (Rep.str mkT) l = cr at *
  go_enter Tryz.func25, Tryz.ntmps25
  go_wp2
  go_loopw [1, 5] (fun q i wr => ∃ (k : Nat), k ≤ n ∧ i = .int .i64 k ∧ q = .int .i64 ((k0 + cntTo (Rep.str mkT) l k : Nat) : Int) ∧ RowRd (Rep.str mkT) true wr (.slice A n cap) (labTo (Rep.str mkT) k0 l k) F ∧ Unch F w wr ∧ Below base w wr) (fun _ i _ => n - (intOf i).toNat)
  case atStart => exact ⟨0, by omega, rfl, by rw [H00.out]; rfl, by rw [H0.out]; exact HV.out, Unch.refl _ _, Below.refl _ _⟩
  case round =>
    obtain ⟨k, hk, rfl, rfl, hrow, hun, hbe⟩ := hrel
    have HUN := Lib.hid hun
    have HBE := Lib.hid hbe
    clear hun hbe
    by_cases hkl : k < n
    · obtain ⟨x, hx⟩ := HX.out k hkl
      have hcs := cntTo_step (Rep.str mkT) l k hx
      have hle := HLE.out (k + 1)
      have HLS := Lib.hid (labTo_step (Rep.str mkT) k0 l k hx)
      have hx1 : (Rep.str mkT).cnt x = 1 := rfl
      rw [hx1] at hcs
      have HLT := Lib.hid (labTo_at (Rep.str mkT) k0 l k hx)
      have HROW := Lib.hid hrow
      have hcb0 : k0 + cntTo (Rep.str mkT) l k + 1 ≤ 1000000000 := by omega
      have HCS := Lib.hid hcs
      clear hrow hcs
      generalize hc : k0 + cntTo (Rep.str mkT) l k = c at *
      have HC := Lib.hid hc
      clear hc
      go_wp2_with fail
      refine (markText_any c _ (by have := HC.out; omega) (by omega)).mono ?_
      rintro e w1 ⟨rfl, hb1⟩
      have hrow1 := HROW.out.kept hb1
      have HUN1 := Lib.hid (HUN.out.trans (Unch.below hb1))
      have HBE1 := Lib.hid (HBE.out.trans (hb1.mono (Nat.le_trans hbase HBE.out.size)))
      clear hb1
      obtain ⟨g, off, xs, Fk, rfl, hrd, hel, hFk, hcl, hput⟩ := hrow1.open HLT.out
      simp only [show (Rep.str mkT).size = 1 from rfl, Nat.mul_one] at hel hcl hput
      have HCL := Lib.hid hcl
      have HFK := Lib.hid hFk
      have HPUT := Lib.hid hput
      clear hrow1 hcl hFk hput
      obtain ⟨rfl, _⟩ := id hrd
      clear hrd
      have c0 := hel.cell 0 rfl
      have f0 := hel.free 0 (by decide)
      have hs0 := hel.set 0 (by decide) (.string (mkT c))
      simp only [Nat.add_zero] at c0 f0 hs0
      simp only [List.set] at hs0
      have HUE := Lib.hid (HUN1.out.trans (Unch.set (p := ⟨g, off + k, none⟩) (HCL.out 0 (by decide)).1 (.string (mkT c))))
      have HBB := Lib.hid (HBE1.out.setCell (p := ⟨g, off + k, none⟩) (HFB.out _ (HCL.out 0 (by decide)).1) (.string (mkT c)))
      have HEE := Lib.hid hs0
      have HMT := Lib.hid (mkT_size c)
      have hcb : c + 1 ≤ 1000000001 := by omega
      clear hs0 hel
      go_wp2
      go_roundw
      case rel =>
        refine ⟨k + 1, by omega, by go_num, ?_, ?_, HUE.out, HBB.out⟩
        · have e1 := HCS.out
          have e2 := HC.out
          congr 1
          omega
        · rw [← HLS.out]
          exact (HPUT.out _ _ ((Rep.str mkT).lab c x) Fk HEE.out ⟨rfl, HMT.out⟩ (fun a h => Or.inl h)).mono (fun a h => h.elim id (HFK.out a))
      case measure => simp [intOf]; omega
    · obtain rfl : k = n := by omega
      rw [HEND.out.1] at hrow
      have HR := Lib.hid (hrow.mono HG.out)
      have HCN := Lib.hid HEND.out.2
      clear hrow
      go_wp2
      go_ret
      exact ⟨ret_i64 (by rw [HCN.out]), HR.out, HUN.out.mono HG.out, HBE.out⟩
end Go.Proofs.YtkaihnlknncfdaaGreatDoor

/- The laws' markLinkS. -/
namespace Go.Proofs.YtkaihnlknncfdaaGreatDoor
set_option maxRecDepth 100000
open Go.RowKit Go.Sort
set_option linter.unusedVariables false
set_option linter.unusedSimpArgs false

set_option maxHeartbeats 2000000 in
theorem markLinkS_any (v : Value) (l : List DLink) (z : Int) (k0 : Nat) (hz : z = (k0 : Int)) (base : Nat) (F0 : Addr → Prop) (w : World) (hF0 : ∀ a, F0 a → base ≤ a.block) (hk : k0 + cntRow rLink l ≤ 1000000000) (h1k : 1 ≤ k0) (hv0 : RowRd rLink true w v l F0) :
    Calls Tryz.prog 84 #[v, .int .i64 z] w fun e w' => e = .returned (.int .i64 ((k0 + cntRow rLink l : Nat) : Int)) ∧ RowRd rLink true w' v (labRow rLink k0 l) F0 ∧ Unch F0 w w' ∧ Below base w w' := by
  subst hz
  have hv := hv0.tight
  have HG : Hid (∀ a, (F0 a ∧ a.block < w.heap.size) → F0 a) := fun _ h => h.1
  have HFS : Hid (∀ a, (F0 a ∧ a.block < w.heap.size) → a.block < w.heap.size) := fun _ h => h.2
  have HFB : Hid (∀ a, (F0 a ∧ a.block < w.heap.size) → base ≤ a.block) := fun a h => hF0 a h.1
  generalize hF : (fun a => F0 a ∧ a.block < w.heap.size) = F at hv
  have HG : Hid (∀ a, F a → F0 a) := by subst hF; exact HG
  have HFS : Hid (∀ a, F a → a.block < w.heap.size) := by subst hF; exact HFS
  have HFB : Hid (∀ a, F a → base ≤ a.block) := by subst hF; exact HFB
  clear hF hF0
  have hmx := hv.max
  have HMX := Lib.hid hmx
  obtain ⟨A, cap, rfl⟩ := hv.form
  have HV := Lib.hid hv
  clear hv hv0
  have HX : Hid (∀ k, k < l.length → ∃ x, l[k]? = some x) := fun k hk => ⟨_, List.getElem?_eq_getElem hk⟩
  have HEND : Hid (labTo rLink k0 l l.length = labRow rLink k0 l ∧ cntTo rLink l l.length = cntRow rLink l) := ⟨labTo_all _ _ _, cntTo_all _ _⟩
  have HLE := Lib.hid (cntTo_le rLink l)
  have H0 := Lib.hid (labTo_zero rLink k0 l)
  have H00 : Hid (cntTo rLink l 0 = 0) := rfl
  generalize hll : l.length = n at *
  clear hll
  generalize cntRow rLink l = cr at *
  go_enter Tryz.func84, Tryz.ntmps84
  go_wp2
  go_loopw [1, 5] (fun q i wr => ∃ (k : Nat), k ≤ n ∧ i = .int .i64 k ∧ q = .int .i64 ((k0 + cntTo rLink l k : Nat) : Int) ∧ RowRd rLink true wr (.slice A n cap) (labTo rLink k0 l k) F ∧ Unch F w wr ∧ Below base w wr) (fun _ i _ => n - (intOf i).toNat)
  case atStart => exact ⟨0, by omega, rfl, by rw [H00.out]; rfl, by rw [H0.out]; exact HV.out, Unch.refl _ _, Below.refl _ _⟩
  case round =>
    obtain ⟨k, hk, rfl, rfl, hrow, hun, hbe⟩ := hrel
    have HUN := Lib.hid hun
    have HBE := Lib.hid hbe
    clear hun hbe
    by_cases hkl : k < n
    · obtain ⟨x, hx⟩ := HX.out k hkl
      have hcs := cntTo_step rLink l k hx
      have hle := HLE.out (k + 1)
      have HLS := Lib.hid (labTo_step rLink k0 l k hx)
      obtain ⟨g, off, xs, Fk, rfl, hrd, hel, hFk, hcl, hput⟩ := hrow.open (labTo_at rLink k0 l k hx)
      rw [show rLink.size = 2 from rfl] at hel hcl hput
      rw [rLink_cnt] at hcs
      have HCL := Lib.hid hcl
      have HFK := Lib.hid hFk
      have HPUT := Lib.hid hput
      have HCS := Lib.hid hcs
      have hcb0 : k0 + cntTo rLink l k + (1 + (1)) ≤ 1000000000 := by omega
      clear hrow hcl hFk hput hcs
      generalize hc : k0 + cntTo rLink l k = c at *
      have hcb : c + 1 ≤ 1000000001 := by omega
      have HC := Lib.hid hc
      clear hc
      have eehrd := rLink_rd hrd
      subst eehrd
      clear hrd
      have c0 := hel.cell 0 rfl
      have f0 := hel.free 0 (by decide)
      have hs0 := hel.set 0 (by decide) (.int .u8 ((((c : Nat) : Int)) % 256))
      simp only [Nat.add_zero] at c0 f0 hs0
      simp only [List.set] at hs0
      have c1 := hs0.cell 1 rfl
      have f1 := hs0.free 1 (by decide)
      have hs1 := hs0.set 1 (by decide) (.int .u8 ((((c : Nat) : Int) + 1) % 256))
      simp only [List.set] at hs1
      have HUE := Lib.hid ((HUN.out.trans (Unch.set (p := ⟨g, off + k * 2, none⟩) (HCL.out 0 (by decide)).1 (.int .u8 ((((c : Nat) : Int)) % 256)))).trans (Unch.set (p := ⟨g, off + k * 2 + 1, none⟩) (HCL.out 1 (by decide)).1 (.int .u8 ((((c : Nat) : Int) + 1) % 256))))
      have HBB := Lib.hid ((HBE.out.setCell (p := ⟨g, off + k * 2, none⟩) (HFB.out _ (HCL.out 0 (by decide)).1) (.int .u8 ((((c : Nat) : Int)) % 256))).setCell (p := ⟨g, off + k * 2 + 1, none⟩) (HFB.out _ (HCL.out 1 (by decide)).1) (.int .u8 ((((c : Nat) : Int) + 1) % 256)))
      have HEE := Lib.hid hs1
      clear hs0 hs1 hel
      go_wp2
      go_roundw
      case rel =>
        refine ⟨k + 1, by omega, by go_num, ?_, ?_, HUE.out, HBB.out⟩
        · have e1 := HCS.out
          have e2 := HC.out
          congr 1
          omega
        · rw [← HLS.out]
          exact (HPUT.out _ _ (rLink.lab c x) Fk HEE.out (rLink_mk (x := rLink.lab c x) ) (fun a h => Or.inl h)).mono (fun a h => h.elim id (HFK.out a))
      case measure => simp [intOf]; omega
    · obtain rfl : k = n := by omega
      rw [HEND.out.1] at hrow
      have HR := Lib.hid (hrow.mono HG.out)
      have HCN := Lib.hid HEND.out.2
      clear hrow
      go_wp2
      go_ret
      exact ⟨ret_i64 (by rw [HCN.out]), HR.out, HUN.out.mono HG.out, HBE.out⟩
end Go.Proofs.YtkaihnlknncfdaaGreatDoor

/- The laws' markCandidateS. -/
namespace Go.Proofs.YtkaihnlknncfdaaGreatDoor
set_option maxRecDepth 100000
open Go.RowKit Go.Sort
set_option linter.unusedVariables false
set_option linter.unusedSimpArgs false

set_option maxHeartbeats 2000000 in
theorem markCandidateS_any (v : Value) (l : List DCandidate) (z : Int) (k0 : Nat) (hz : z = (k0 : Int)) (base : Nat) (F0 : Addr → Prop) (w : World) (hF0 : ∀ a, F0 a → base ≤ a.block) (hk : k0 + cntRow rCandidate l ≤ 1000000000) (h1k : 1 ≤ k0) (hv0 : RowRd rCandidate true w v l F0) :
    Calls Tryz.prog 59 #[v, .int .i64 z] w fun e w' => e = .returned (.int .i64 ((k0 + cntRow rCandidate l : Nat) : Int)) ∧ RowRd rCandidate true w' v (labRow rCandidate k0 l) F0 ∧ Unch F0 w w' ∧ Below base w w' := by
  subst hz
  have hv := hv0.tight
  have HG : Hid (∀ a, (F0 a ∧ a.block < w.heap.size) → F0 a) := fun _ h => h.1
  have HFS : Hid (∀ a, (F0 a ∧ a.block < w.heap.size) → a.block < w.heap.size) := fun _ h => h.2
  have HFB : Hid (∀ a, (F0 a ∧ a.block < w.heap.size) → base ≤ a.block) := fun a h => hF0 a h.1
  generalize hF : (fun a => F0 a ∧ a.block < w.heap.size) = F at hv
  have HG : Hid (∀ a, F a → F0 a) := by subst hF; exact HG
  have HFS : Hid (∀ a, F a → a.block < w.heap.size) := by subst hF; exact HFS
  have HFB : Hid (∀ a, F a → base ≤ a.block) := by subst hF; exact HFB
  clear hF hF0
  have hmx := hv.max
  have HMX := Lib.hid hmx
  obtain ⟨A, cap, rfl⟩ := hv.form
  have HV := Lib.hid hv
  clear hv hv0
  have HX : Hid (∀ k, k < l.length → ∃ x, l[k]? = some x) := fun k hk => ⟨_, List.getElem?_eq_getElem hk⟩
  have HEND : Hid (labTo rCandidate k0 l l.length = labRow rCandidate k0 l ∧ cntTo rCandidate l l.length = cntRow rCandidate l) := ⟨labTo_all _ _ _, cntTo_all _ _⟩
  have HLE := Lib.hid (cntTo_le rCandidate l)
  have H0 := Lib.hid (labTo_zero rCandidate k0 l)
  have H00 : Hid (cntTo rCandidate l 0 = 0) := rfl
  generalize hll : l.length = n at *
  clear hll
  generalize cntRow rCandidate l = cr at *
  go_enter Tryz.func59, Tryz.ntmps59
  go_wp2
  go_loopw [1, 5] (fun q i wr => ∃ (k : Nat), k ≤ n ∧ i = .int .i64 k ∧ q = .int .i64 ((k0 + cntTo rCandidate l k : Nat) : Int) ∧ RowRd rCandidate true wr (.slice A n cap) (labTo rCandidate k0 l k) F ∧ Unch F w wr ∧ Below base w wr) (fun _ i _ => n - (intOf i).toNat)
  case atStart => exact ⟨0, by omega, rfl, by rw [H00.out]; rfl, by rw [H0.out]; exact HV.out, Unch.refl _ _, Below.refl _ _⟩
  case round =>
    obtain ⟨k, hk, rfl, rfl, hrow, hun, hbe⟩ := hrel
    have HUN := Lib.hid hun
    have HBE := Lib.hid hbe
    clear hun hbe
    by_cases hkl : k < n
    · obtain ⟨x, hx⟩ := HX.out k hkl
      have hcs := cntTo_step rCandidate l k hx
      have hle := HLE.out (k + 1)
      have HLS := Lib.hid (labTo_step rCandidate k0 l k hx)
      obtain ⟨g, off, xs, Fk, rfl, hrd, hel, hFk, hcl, hput⟩ := hrow.open (labTo_at rCandidate k0 l k hx)
      simp only [show rCandidate.size = 1 from rfl, Nat.mul_one] at hel hcl hput
      rw [rCandidate_cnt] at hcs
      have HCL := Lib.hid hcl
      have HFK := Lib.hid hFk
      have HPUT := Lib.hid hput
      have HCS := Lib.hid hcs
      have hcb0 : k0 + cntTo rCandidate l k + (cntRow rLink x.Links) ≤ 1000000000 := by omega
      clear hrow hcl hFk hput hcs
      generalize hc : k0 + cntTo rCandidate l k = c at *
      have hc1 : 1 ≤ c := by omega
      have hcb : c + 1 ≤ 1000000001 := by omega
      have HC := Lib.hid hc
      clear hc
      obtain ⟨v0, rfl, q0⟩ := rCandidate_rd hrd
      clear hrd
      obtain ⟨c0', hc0⟩ : ∃ q, c + 0 + cntRow rLink x.Links = q := ⟨_, rfl⟩
      have HM0 := Lib.hid (markLinkS_any v0 x.Links (((c : Nat) : Int)) (c + 0) (by omega) base Fk _ (fun a ha => HFB.out a (HFK.out a ha)) (by omega) (by omega) q0)
      rw [hc0] at HM0
      have c0 := hel.cell 0 rfl
      simp only [Nat.add_zero, Nat.mul_one] at c0
      have HEL0 := Lib.hid hel
      clear hel q0
      go_wp2_with fail
      refine HM0.out.mono ?_
      rintro e w0 ⟨rfl, qq0, hu0, hb0⟩
      have hm0 := HEL0.out.call hu0 (fun j hj => (HCL.out j hj).2) (fun a ha => Nat.lt_of_lt_of_le (HFS.out a ha) (Nat.le_trans HUN.out.size (by simp [World.setCell])))
      clear c0
      have HUE := Lib.hid (HUN.out.trans (hu0.mono HFK.out))
      have HBB := Lib.hid (HBE.out.trans hb0)
      have HEE := Lib.hid hm0
      have HQ0 := Lib.hid qq0
      clear hm0 hu0 hb0 qq0
      go_wp2
      go_roundw
      case rel =>
        subst hc0
        refine ⟨k + 1, by omega, by go_num, ?_, ?_, HUE.out, HBB.out⟩
        · have e1 := HCS.out
          have e2 := HC.out
          congr 1
          omega
        · rw [← HLS.out]
          exact (HPUT.out _ _ (rCandidate.lab c x) Fk HEE.out (rCandidate_mk (x := rCandidate.lab c x) HQ0.out) (fun a h => Or.inl h)).mono (fun a h => h.elim id (HFK.out a))
      case measure => simp [intOf]; omega
    · obtain rfl : k = n := by omega
      rw [HEND.out.1] at hrow
      have HR := Lib.hid (hrow.mono HG.out)
      have HCN := Lib.hid HEND.out.2
      clear hrow
      go_wp2
      go_ret
      exact ⟨ret_i64 (by rw [HCN.out]), HR.out, HUN.out.mono HG.out, HBE.out⟩
end Go.Proofs.YtkaihnlknncfdaaGreatDoor

/- The laws' markIntS. -/
namespace Go.Proofs.YtkaihnlknncfdaaGreatDoor
set_option maxRecDepth 100000
open Go.RowKit Go.Sort
set_option linter.unusedVariables false
set_option linter.unusedSimpArgs false

set_option maxHeartbeats 2000000 in
theorem markIntS_any (v : Value) (l : List Int) (z : Int) (k0 : Nat) (hz : z = (k0 : Int)) (base : Nat) (F0 : Addr → Prop) (w : World) (hF0 : ∀ a, F0 a → base ≤ a.block) (hk : k0 + cntRow Rep.int l ≤ 1000000000) (h1k : 1 ≤ k0) (hv0 : RowRd Rep.int true w v l F0) :
    Calls Tryz.prog 20 #[v, .int .i64 z] w fun e w' => e = .returned (.int .i64 ((k0 + cntRow Rep.int l : Nat) : Int)) ∧ RowRd Rep.int true w' v (labRow Rep.int k0 l) F0 ∧ Unch F0 w w' ∧ Below base w w' := by
  subst hz
  have hv := hv0.tight
  have HG : Hid (∀ a, (F0 a ∧ a.block < w.heap.size) → F0 a) := fun _ h => h.1
  have HFS : Hid (∀ a, (F0 a ∧ a.block < w.heap.size) → a.block < w.heap.size) := fun _ h => h.2
  have HFB : Hid (∀ a, (F0 a ∧ a.block < w.heap.size) → base ≤ a.block) := fun a h => hF0 a h.1
  generalize hF : (fun a => F0 a ∧ a.block < w.heap.size) = F at hv
  have HG : Hid (∀ a, F a → F0 a) := by subst hF; exact HG
  have HFS : Hid (∀ a, F a → a.block < w.heap.size) := by subst hF; exact HFS
  have HFB : Hid (∀ a, F a → base ≤ a.block) := by subst hF; exact HFB
  clear hF hF0
  have hmx := hv.max
  have HMX := Lib.hid hmx
  obtain ⟨A, cap, rfl⟩ := hv.form
  have HV := Lib.hid hv
  clear hv hv0
  have HX : Hid (∀ k, k < l.length → ∃ x, l[k]? = some x) := fun k hk => ⟨_, List.getElem?_eq_getElem hk⟩
  have HEND : Hid (labTo Rep.int k0 l l.length = labRow Rep.int k0 l ∧ cntTo Rep.int l l.length = cntRow Rep.int l) := ⟨labTo_all _ _ _, cntTo_all _ _⟩
  have HLE := Lib.hid (cntTo_le Rep.int l)
  have H0 := Lib.hid (labTo_zero Rep.int k0 l)
  have H00 : Hid (cntTo Rep.int l 0 = 0) := rfl
  generalize hll : l.length = n at *
  clear hll
  generalize cntRow Rep.int l = cr at *
  go_enter Tryz.func20, Tryz.ntmps20
  go_wp2
  go_loopw [1, 5] (fun q i wr => ∃ (k : Nat), k ≤ n ∧ i = .int .i64 k ∧ q = .int .i64 ((k0 + cntTo Rep.int l k : Nat) : Int) ∧ RowRd Rep.int true wr (.slice A n cap) (labTo Rep.int k0 l k) F ∧ Unch F w wr ∧ Below base w wr) (fun _ i _ => n - (intOf i).toNat)
  case atStart => exact ⟨0, by omega, rfl, by rw [H00.out]; rfl, by rw [H0.out]; exact HV.out, Unch.refl _ _, Below.refl _ _⟩
  case round =>
    obtain ⟨k, hk, rfl, rfl, hrow, hun, hbe⟩ := hrel
    have HUN := Lib.hid hun
    have HBE := Lib.hid hbe
    clear hun hbe
    by_cases hkl : k < n
    · obtain ⟨x, hx⟩ := HX.out k hkl
      have hcs := cntTo_step Rep.int l k hx
      have hle := HLE.out (k + 1)
      have HLS := Lib.hid (labTo_step Rep.int k0 l k hx)
      obtain ⟨g, off, xs, Fk, rfl, hrd, hel, hFk, hcl, hput⟩ := hrow.open (labTo_at Rep.int k0 l k hx)
      simp only [show Rep.int.size = 1 from rfl, Nat.mul_one] at hel hcl hput
      rw [show Rep.int.cnt x = 1 from rfl] at hcs
      have HCL := Lib.hid hcl
      have HFK := Lib.hid hFk
      have HPUT := Lib.hid hput
      have HCS := Lib.hid hcs
      have hcb0 : k0 + cntTo Rep.int l k + (1) ≤ 1000000000 := by omega
      clear hrow hcl hFk hput hcs
      generalize hc : k0 + cntTo Rep.int l k = c at *
      have hcb : c + 1 ≤ 1000000001 := by omega
      have HC := Lib.hid hc
      clear hc
      obtain ⟨rfl, _⟩ := id hrd
      clear hrd
      have c0 := hel.cell 0 rfl
      have f0 := hel.free 0 (by decide)
      have hs0 := hel.set 0 (by decide) (.int .i64 (((c : Nat) : Int)))
      simp only [Nat.add_zero] at c0 f0 hs0
      simp only [List.set] at hs0
      have HUE := Lib.hid (HUN.out.trans (Unch.set (p := ⟨g, off + k, none⟩) (HCL.out 0 (by decide)).1 (.int .i64 (((c : Nat) : Int)))))
      have HBB := Lib.hid (HBE.out.setCell (p := ⟨g, off + k, none⟩) (HFB.out _ (HCL.out 0 (by decide)).1) (.int .i64 (((c : Nat) : Int))))
      have HEE := Lib.hid hs0
      clear hs0 hel
      go_wp2
      go_roundw
      case rel =>
        refine ⟨k + 1, by omega, by go_num, ?_, ?_, HUE.out, HBB.out⟩
        · have e1 := HCS.out
          have e2 := HC.out
          congr 1
          omega
        · rw [← HLS.out]
          exact (HPUT.out _ _ (Rep.int.lab c x) Fk HEE.out ⟨rfl, (by unfold I64; simp only [Rep.int]; omega)⟩ (fun a h => Or.inl h)).mono (fun a h => h.elim id (HFK.out a))
      case measure => simp [intOf]; omega
    · obtain rfl : k = n := by omega
      rw [HEND.out.1] at hrow
      have HR := Lib.hid (hrow.mono HG.out)
      have HCN := Lib.hid HEND.out.2
      clear hrow
      go_wp2
      go_ret
      exact ⟨ret_i64 (by rw [HCN.out]), HR.out, HUN.out.mono HG.out, HBE.out⟩
end Go.Proofs.YtkaihnlknncfdaaGreatDoor

/- The laws' markIntSS. -/
namespace Go.Proofs.YtkaihnlknncfdaaGreatDoor
set_option maxRecDepth 100000
open Go.RowKit Go.Sort
set_option linter.unusedVariables false
set_option linter.unusedSimpArgs false

set_option maxHeartbeats 2000000 in
theorem markIntSS_any (v : Value) (l : List (List Int)) (z : Int) (k0 : Nat) (hz : z = (k0 : Int)) (base : Nat) (F0 : Addr → Prop) (w : World) (hF0 : ∀ a, F0 a → base ≤ a.block) (hk : k0 + cntRow (Rep.row Rep.int) l ≤ 1000000000) (h1k : 1 ≤ k0) (hv0 : RowRd (Rep.row Rep.int) true w v l F0) :
    Calls Tryz.prog 60 #[v, .int .i64 z] w fun e w' => e = .returned (.int .i64 ((k0 + cntRow (Rep.row Rep.int) l : Nat) : Int)) ∧ RowRd (Rep.row Rep.int) true w' v (labRow (Rep.row Rep.int) k0 l) F0 ∧ Unch F0 w w' ∧ Below base w w' := by
  subst hz
  have hv := hv0.tight
  have HG : Hid (∀ a, (F0 a ∧ a.block < w.heap.size) → F0 a) := fun _ h => h.1
  have HFS : Hid (∀ a, (F0 a ∧ a.block < w.heap.size) → a.block < w.heap.size) := fun _ h => h.2
  have HFB : Hid (∀ a, (F0 a ∧ a.block < w.heap.size) → base ≤ a.block) := fun a h => hF0 a h.1
  generalize hF : (fun a => F0 a ∧ a.block < w.heap.size) = F at hv
  have HG : Hid (∀ a, F a → F0 a) := by subst hF; exact HG
  have HFS : Hid (∀ a, F a → a.block < w.heap.size) := by subst hF; exact HFS
  have HFB : Hid (∀ a, F a → base ≤ a.block) := by subst hF; exact HFB
  clear hF hF0
  have hmx := hv.max
  have HMX := Lib.hid hmx
  obtain ⟨A, cap, rfl⟩ := hv.form
  have HV := Lib.hid hv
  clear hv hv0
  have HX : Hid (∀ k, k < l.length → ∃ x, l[k]? = some x) := fun k hk => ⟨_, List.getElem?_eq_getElem hk⟩
  have HEND : Hid (labTo (Rep.row Rep.int) k0 l l.length = labRow (Rep.row Rep.int) k0 l ∧ cntTo (Rep.row Rep.int) l l.length = cntRow (Rep.row Rep.int) l) := ⟨labTo_all _ _ _, cntTo_all _ _⟩
  have HLE := Lib.hid (cntTo_le (Rep.row Rep.int) l)
  have H0 := Lib.hid (labTo_zero (Rep.row Rep.int) k0 l)
  have H00 : Hid (cntTo (Rep.row Rep.int) l 0 = 0) := rfl
  generalize hll : l.length = n at *
  clear hll
  generalize cntRow (Rep.row Rep.int) l = cr at *
  go_enter Tryz.func60, Tryz.ntmps60
  go_wp2
  go_loopw [1, 5] (fun q i wr => ∃ (k : Nat), k ≤ n ∧ i = .int .i64 k ∧ q = .int .i64 ((k0 + cntTo (Rep.row Rep.int) l k : Nat) : Int) ∧ RowRd (Rep.row Rep.int) true wr (.slice A n cap) (labTo (Rep.row Rep.int) k0 l k) F ∧ Unch F w wr ∧ Below base w wr) (fun _ i _ => n - (intOf i).toNat)
  case atStart => exact ⟨0, by omega, rfl, by rw [H00.out]; rfl, by rw [H0.out]; exact HV.out, Unch.refl _ _, Below.refl _ _⟩
  case round =>
    obtain ⟨k, hk, rfl, rfl, hrow, hun, hbe⟩ := hrel
    have HUN := Lib.hid hun
    have HBE := Lib.hid hbe
    clear hun hbe
    by_cases hkl : k < n
    · obtain ⟨x, hx⟩ := HX.out k hkl
      have hcs := cntTo_step (Rep.row Rep.int) l k hx
      have hle := HLE.out (k + 1)
      have HLS := Lib.hid (labTo_step (Rep.row Rep.int) k0 l k hx)
      obtain ⟨g, off, xs, Fk, rfl, hrd, hel, hFk, hcl, hput⟩ := hrow.open (labTo_at (Rep.row Rep.int) k0 l k hx)
      simp only [show (Rep.row Rep.int).size = 1 from rfl, Nat.mul_one] at hel hcl hput
      rw [show (Rep.row Rep.int).cnt x = cntRow Rep.int x from rfl] at hcs
      have HCL := Lib.hid hcl
      have HFK := Lib.hid hFk
      have HPUT := Lib.hid hput
      have HCS := Lib.hid hcs
      have hcb0 : k0 + cntTo (Rep.row Rep.int) l k + (cntRow Rep.int x) ≤ 1000000000 := by omega
      clear hrow hcl hFk hput hcs
      generalize hc : k0 + cntTo (Rep.row Rep.int) l k = c at *
      have hc1 : 1 ≤ c := by omega
      have hcb : c + 1 ≤ 1000000001 := by omega
      have HC := Lib.hid hc
      clear hc
      obtain ⟨v0, rfl, q0⟩ := id hrd
      clear hrd
      obtain ⟨c0', hc0⟩ : ∃ q, c + 0 + cntRow Rep.int x = q := ⟨_, rfl⟩
      have HM0 := Lib.hid (markIntS_any v0 x (((c : Nat) : Int)) (c + 0) (by omega) base Fk _ (fun a ha => HFB.out a (HFK.out a ha)) (by omega) (by omega) q0)
      rw [hc0] at HM0
      have c0 := hel.cell 0 rfl
      simp only [Nat.add_zero, Nat.mul_one] at c0
      have HEL0 := Lib.hid hel
      clear hel q0
      go_wp2_with fail
      refine HM0.out.mono ?_
      rintro e w0 ⟨rfl, qq0, hu0, hb0⟩
      have hm0 := HEL0.out.call hu0 (fun j hj => (HCL.out j hj).2) (fun a ha => Nat.lt_of_lt_of_le (HFS.out a ha) (Nat.le_trans HUN.out.size (by simp [World.setCell])))
      clear c0
      have HUE := Lib.hid (HUN.out.trans (hu0.mono HFK.out))
      have HBB := Lib.hid (HBE.out.trans hb0)
      have HEE := Lib.hid hm0
      have HQ0 := Lib.hid qq0
      clear hm0 hu0 hb0 qq0
      go_wp2
      go_roundw
      case rel =>
        subst hc0
        refine ⟨k + 1, by omega, by go_num, ?_, ?_, HUE.out, HBB.out⟩
        · have e1 := HCS.out
          have e2 := HC.out
          congr 1
          omega
        · rw [← HLS.out]
          exact (HPUT.out _ _ ((Rep.row Rep.int).lab c x) Fk HEE.out ⟨v0, rfl, HQ0.out⟩ (fun a h => Or.inl h)).mono (fun a h => h.elim id (HFK.out a))
      case measure => simp [intOf]; omega
    · obtain rfl : k = n := by omega
      rw [HEND.out.1] at hrow
      have HR := Lib.hid (hrow.mono HG.out)
      have HCN := Lib.hid HEND.out.2
      clear hrow
      go_wp2
      go_ret
      exact ⟨ret_i64 (by rw [HCN.out]), HR.out, HUN.out.mono HG.out, HBE.out⟩
end Go.Proofs.YtkaihnlknncfdaaGreatDoor

/- The laws' markTableau. -/
namespace Go.Proofs.YtkaihnlknncfdaaGreatDoor
set_option maxRecDepth 100000
open Go.RowKit Go.Sort M
set_option linter.unusedVariables false
set_option linter.unusedSimpArgs false

set_option maxHeartbeats 2000000 in
theorem markTableau_any (x : DTableau) (v1 v2 v3 : Value) (z : Int) (k0 : Nat) (hz : z = (k0 : Int)) (base : Nat) (F1 F2 F3 : Addr → Prop) (w : World) (hbs : base ≤ w.heap.size) (hF : ∀ a, F1 a ∨ F2 a ∨ F3 a → base ≤ a.block) (hk : k0 + cntTab x ≤ 1000000000) (h1k : 1 ≤ k0) (hv : TabRd true w v1 v2 v3 x F1 F2 F3) :
    Calls Tryz.prog 19 #[.agg #[.string x.Input, v1, v2, v3], .int .i64 z] w fun e w' => e = .returned (.int .i64 ((k0 + cntTab x : Nat) : Int)) ∧ TabRd true w' v1 v2 v3 (labTab k0 x) F1 F2 F3 ∧ Unch (fun a => F1 a ∨ F2 a ∨ F3 a) w w' ∧ Below base w w' := by
  subst hz
  unfold cntTab at hk
  have HBX : Hid (Below w.heap.size w (w.alloc (.cells #[.string x.Input, v1, v2, v3] 32))) := (Below.refl _ _).alloc (Nat.le_refl _) _
  have HA0 : Hid (InC (w.alloc (.cells #[.string x.Input, v1, v2, v3] 32)) w.heap.size #[.string x.Input, v1, v2, v3] 32) := heap_alloc_new _ _
  have HV := Lib.hid hv.tight
  have HFB := Lib.hid hF
  have HI := Lib.hid hv.inp
  have HP : Hid (∀ w', TabRd true w' v1 v2 v3 (labTab k0 x) (fun a => F1 a ∧ a.block < w.heap.size) (fun a => F2 a ∧ a.block < w.heap.size) (fun a => F3 a ∧ a.block < w.heap.size) → TabRd true w' v1 v2 v3 (labTab k0 x) F1 F2 F3) := fun w' h => ⟨h.inp, h.names.mono fun _ h => h.1, h.rows.mono fun _ h => h.1, h.marks.mono fun _ h => h.1, hv.d12, hv.d13, hv.d23⟩
  clear hv hF
  generalize hG1 : (fun a : Addr => F1 a ∧ a.block < w.heap.size) = G1 at *
  generalize hG2 : (fun a : Addr => F2 a ∧ a.block < w.heap.size) = G2 at *
  generalize hG3 : (fun a : Addr => F3 a ∧ a.block < w.heap.size) = G3 at *
  have HS : Hid (∀ a, G1 a ∨ G2 a ∨ G3 a → (F1 a ∨ F2 a ∨ F3 a) ∧ a.block < w.heap.size ∧ base ≤ a.block) := by
    subst hG1; subst hG2; subst hG3
    intro a ha
    rcases ha with ha | ha | ha
    · exact ⟨.inl ha.1, ha.2, HFB.out a (.inl ha.1)⟩
    · exact ⟨.inr (.inl ha.1), ha.2, HFB.out a (.inr (.inl ha.1))⟩
    · exact ⟨.inr (.inr ha.1), ha.2, HFB.out a (.inr (.inr ha.1))⟩
  clear hG1 hG2 hG3 HFB
  obtain ⟨c1, hc1⟩ : ∃ c, k0 + cntRow (Rep.str mkT) x.Names = c := ⟨_, rfl⟩
  obtain ⟨c2, hc2⟩ : ∃ c, c1 + cntRow rCandidate x.Rows = c := ⟨_, rfl⟩
  obtain ⟨c3, hc3⟩ : ∃ c, c2 + cntRow (Rep.row Rep.int) x.Marks = c := ⟨_, rfl⟩
  have HE : Hid (k0 + cntTab x = c3) := by unfold Hid cntTab; omega
  have HLT : Hid (labTab k0 x = ⟨x.Input, labRow (Rep.str mkT) k0 x.Names, labRow rCandidate c1 x.Rows, labRow (Rep.row Rep.int) c2 x.Marks⟩) := by unfold Hid labTab; rw [hc1, hc2]
  have HM1 : Hid (∀ W, Below w.heap.size w W → Calls Tryz.prog 25 #[v1, .int .i64 (k0 : Int)] W fun e w' => e = .returned (.int .i64 ((c1 : Nat) : Int)) ∧ RowRd (Rep.str mkT) true w' v1 (labRow (Rep.str mkT) k0 x.Names) G1 ∧ Unch G1 W w' ∧ Below base W w') := fun W hW => by
    have := markStrs_any v1 x.Names _ k0 rfl base G1 W (fun a ha => (HS.out a (.inl ha)).2.2) (by omega) h1k (Nat.le_trans hbs hW.size) (HV.out.names.kept hW)
    rw [hc1] at this
    exact this
  have HM2 : Hid (∀ W, RowRd rCandidate true W v2 x.Rows G2 → Calls Tryz.prog 59 #[v2, .int .i64 (c1 : Int)] W fun e w' => e = .returned (.int .i64 ((c2 : Nat) : Int)) ∧ RowRd rCandidate true w' v2 (labRow rCandidate c1 x.Rows) G2 ∧ Unch G2 W w' ∧ Below base W w') := fun W hW => by
    have := markCandidateS_any v2 x.Rows _ c1 rfl base G2 W (fun a ha => (HS.out a (.inr (.inl ha))).2.2) (by omega) (by omega) hW
    rw [hc2] at this
    exact this
  have HM3 : Hid (∀ W, RowRd (Rep.row Rep.int) true W v3 x.Marks G3 → Calls Tryz.prog 60 #[v3, .int .i64 (c2 : Int)] W fun e w' => e = .returned (.int .i64 ((c3 : Nat) : Int)) ∧ RowRd (Rep.row Rep.int) true w' v3 (labRow (Rep.row Rep.int) c2 x.Marks) G3 ∧ Unch G3 W w' ∧ Below base W w') := fun W hW => by
    have := markIntSS_any v3 x.Marks _ c2 rfl base G3 W (fun a ha => (HS.out a (.inr (.inr ha))).2.2) (by omega) (by omega) hW
    rw [hc3] at this
    exact this
  have HAP : Hid (∀ (W W' : World) (G : Addr → Prop), Unch G W W' → w.heap.size < W.heap.size → (∀ a, G a → a.block < w.heap.size) → InC W w.heap.size #[.string x.Input, v1, v2, v3] 32 → InC W' w.heap.size #[.string x.Input, v1, v2, v3] 32 ∨ True) := fun _ _ _ _ _ _ _ => Or.inr trivial
  clear hc1 hc2 hc3 hk HAP
  rw [HE.out, HLT.out]
  rw [HLT.out] at HP
  generalize hll0 : labRow (Rep.str mkT) k0 x.Names = L1 at *
  generalize hll1 : labRow rCandidate c1 x.Rows = L2 at *
  generalize hll2 : labRow (Rep.row Rep.int) c2 x.Marks = L3 at *
  clear hll0 hll1 hll2 HLT HE
  have HX0 := Lib.hid HV.out
  go_enter Tryz.func19, Tryz.ntmps19
  go_wp2_with fail
  refine (HM1.out _ HBX.out).mono ?_
  rintro e w1 ⟨rfl, hq1, hu1, hb1⟩
  have hsz0 : (w.alloc (.cells #[.string x.Input, v1, v2, v3] 32)).heap.size = w.heap.size + 1 := by simp
  have HU1 := Lib.hid hu1
  have c2' : w1.cell? ⟨w.heap.size, 2, none⟩ = some v2 := ((hu1.same ⟨w.heap.size, 2, none⟩ (by rw [hsz0]; exact Nat.lt_succ_self _) (fun h => by have := (HS.out _ (.inl h)).2.1; simp at this)).1).trans (HA0.out.cell 2 rfl)
  have c3' : w1.cell? ⟨w.heap.size, 3, none⟩ = some v3 := ((hu1.same ⟨w.heap.size, 3, none⟩ (by rw [hsz0]; exact Nat.lt_succ_self _) (fun h => by have := (HS.out _ (.inl h)).2.1; simp at this)).1).trans (HA0.out.cell 3 rfl)
  have HC3 := Lib.hid c3'
  have hr2 : RowRd rCandidate true w1 v2 x.Rows G2 := (HV.out.rows.kept HBX.out).apart hu1 (fun a h2 h1 => HV.out.d12 rfl a h1 h2)
  have hr3 : RowRd (Rep.row Rep.int) true w1 v3 x.Marks G3 := (HV.out.marks.kept HBX.out).apart hu1 (fun a h3 h1 => HV.out.d13 rfl a h1 h3)
  have HR2 := Lib.hid hr2
  have HR3 := Lib.hid hr3
  have HQ1 := Lib.hid hq1
  have HB1 := Lib.hid (((Below.refl base w).alloc hbs _).trans hb1)
  have HU01 : Hid (Unch (fun a => F1 a ∨ F2 a ∨ F3 a) w w1) := (Unch.below HBX.out).trans (hu1.mono (fun a h => (HS.out a (.inl h)).1))
  have hs1 := hu1.size
  rw [hsz0] at hs1
  have HS1 := Lib.hid hs1
  clear hq1 hu1 hb1 hr2 hr3 c3' HU1 hs1
  go_wp2_with fail
  refine (HM2.out _ HR2.out).mono ?_
  rintro e w2 ⟨rfl, hq2, hu2, hb2⟩
  have c3' : w2.cell? ⟨w.heap.size, 3, none⟩ = some v3 := ((hu2.same ⟨w.heap.size, 3, none⟩ HS1.out (fun h => by have := (HS.out _ (.inr (.inl h))).2.1; simp at this)).1).trans HC3.out
  have hr3 : RowRd (Rep.row Rep.int) true w2 v3 x.Marks G3 := HR3.out.apart hu2 (fun a h3 h2 => HV.out.d23 rfl a h2 h3)
  have hq12 : RowRd (Rep.str mkT) true w2 v1 L1 G1 := HQ1.out.apart hu2 (fun a h1 h2 => HV.out.d12 rfl a h1 h2)
  have HR32 := Lib.hid hr3
  have HQ12 := Lib.hid hq12
  have HQ2 := Lib.hid hq2
  have HB2 := Lib.hid (HB1.out.trans hb2)
  have HU02 : Hid (Unch (fun a => F1 a ∨ F2 a ∨ F3 a) w w2) := HU01.out.trans (hu2.mono (fun a h => (HS.out a (.inr (.inl h))).1))
  clear hq2 hu2 hb2 hr3 hq12 c2'
  go_wp2_with fail
  refine (HM3.out _ HR32.out).mono ?_
  rintro e w3 ⟨rfl, hq3, hu3, hb3⟩
  have HQ3 := Lib.hid hq3
  have HQ13 := Lib.hid (HQ12.out.apart hu3 (fun a h1 h3 => HV.out.d13 rfl a h1 h3))
  have HQ23 := Lib.hid (HQ2.out.apart hu3 (fun a h2 h3 => HV.out.d23 rfl a h2 h3))
  have HB3 := Lib.hid (HB2.out.trans hb3)
  have HU03 : Hid (Unch (fun a => F1 a ∨ F2 a ∨ F3 a) w w3) := HU02.out.trans (hu3.mono (fun a h => (HS.out a (.inr (.inr h))).1))
  clear hq3 hu3 hb3 c3'
  go_wp2
  go_ret
  exact ⟨rfl, HP.out _ ⟨HI.out, HQ13.out, HQ23.out, HQ3.out, HV.out.d12, HV.out.d13, HV.out.d23⟩, HU03.out, HB3.out⟩
end Go.Proofs.YtkaihnlknncfdaaGreatDoor
