/- Merged: Tc11 ThStringS OptimalOutputsWalk. -/
import Derived.Test.YtkaihnlknncfdaaGreatDoorQ2
import Derived.Test.YtkaihnlknncfdaaGreatDoorQ1
import Derived.WalkKit
import Derived.BigQuiet
import Derived.Lib.QuietBelow
import Derived.Test.YtkaihnlknncfdaaGreatDoorRows
import Derived.Test.YtkaihnlknncfdaaGreatDoorQ9
import Derived.Test.YtkaihnlknncfdaaGreatDoorQ10
import Derived.Test.YtkaihnlknncfdaaGreatDoorQ11
import Derived.Test.YtkaihnlknncfdaaGreatDoorQ12
import Derived.Test.YtkaihnlknncfdaaGreatDoorQ13
import Derived.Deep.RegionWith
import Derived.Deep.DeepCutAuto
/- How many marks a table takes. -/
namespace Go.Proofs.YtkaihnlknncfdaaGreatDoor
set_option maxRecDepth 100000
open Go.RowKit M
set_option linter.unusedVariables false
set_option linter.unusedSimpArgs false

theorem cntRow_le {α : Type} (E : Rep α) (c : Nat) (h : ∀ x, E.cnt x ≤ c * (E.sz x + 1)) : ∀ l : List α, cntRow E l ≤ c * szRow E l
  | [] => by simp [cntRow]
  | x :: l => by
    have ih := cntRow_le E c h l
    have h1 := h x
    have e1 : cntRow E (x :: l) = E.cnt x + cntRow E l := by simp [cntRow]
    have e2 : szRow E (x :: l) = (E.sz x + 1) + szRow E l := by simp [szRow]; omega
    rw [e1, e2, Nat.mul_add]
    omega
theorem cntTab_le {x : DTableau} (h : rTableau.sz x ≤ 1048576) : 1 + cntTab x ≤ 1000000000 := by
  rw [rTableau_sz] at h
  have h1 := cntRow_le (Rep.str mkT) 1 (fun y => by show 1 ≤ 1 * (y.size + 1); omega) x.Names
  have h2 := cntRow_le rCandidate 2 (fun y => by
    have h3 := cntRow_le rLink 2 (fun z => by show 1 + 1 ≤ 2 * (0 + 0 + 1); omega) y.Links
    rw [rCandidate_cnt, rCandidate_sz]
    omega) x.Rows
  have h4 := cntRow_le (Rep.row Rep.int) 1 (fun y => by
    have h5 := cntRow_le Rep.int 1 (fun z => by show 1 ≤ 1 * (0 + 1); omega) y
    show cntRow Rep.int y ≤ 1 * (szRow Rep.int y + 1)
    omega) x.Marks
  unfold cntTab
  omega
end Go.Proofs.YtkaihnlknncfdaaGreatDoor

/- The laws' heldStringS. -/
namespace Go.Proofs.YtkaihnlknncfdaaGreatDoor
set_option maxRecDepth 100000
open Go.RowKit Go.Sort M
set_option linter.unusedVariables false
set_option linter.unusedSimpArgs false

set_option maxHeartbeats 1000000 in
theorem heldStrs_any (v : Value) (l : List ByteArray) (z : Int) (k0 : Nat) (hz : z = (k0 : Int)) (F : Addr → Prop) (w : World) (hk : k0 + cntRow (Rep.str mkT) l ≤ 1000000000) (h1k : 1 ≤ k0) (hv : RowRd (Rep.str mkT) false w v (labRow (Rep.str mkT) k0 l) F) :
    Calls Tryz.prog 26 #[v, .int .i64 z] w fun e w' => e = .returned (.int .i64 ((k0 + cntRow (Rep.str mkT) l : Nat) : Int)) ∧ Below w.heap.size w w' := by
  subst hz
  have hmx := hv.max
  rw [labRow_len] at hmx
  obtain ⟨A, cap, rfl⟩ := hv.form
  rw [labRow_len]
  rw [labRow_len] at hv
  have HV := Lib.hid hv
  clear hv
  have HX : Hid (∀ k, k < l.length → ∃ x, l[k]? = some x) := fun k hk => ⟨_, List.getElem?_eq_getElem hk⟩
  have HEND : Hid (cntTo (Rep.str mkT) l l.length = cntRow (Rep.str mkT) l) := cntTo_all _ _
  have HLE := Lib.hid (cntTo_le (Rep.str mkT) l)
  have H00 : Hid (cntTo (Rep.str mkT) l 0 = 0) := rfl
  generalize hll : l.length = n at *
  clear hll
  generalize cntRow (Rep.str mkT) l = cr at *
  go_enter Tryz.func26, Tryz.ntmps26
  go_wp2
  go_loopw [1, 5] (fun q i wr => ∃ (k : Nat), k ≤ n ∧ i = .int .i64 k ∧ q = .int .i64 ((k0 + cntTo (Rep.str mkT) l k : Nat) : Int) ∧ Below w.heap.size w wr) (fun _ i _ => n - (intOf i).toNat)
  case atStart => exact ⟨0, by omega, rfl, by rw [H00.out]; rfl, Below.refl _ _⟩
  case round =>
    obtain ⟨k, hk, rfl, rfl, hbe⟩ := hrel
    have HBE := Lib.hid hbe
    clear hbe
    by_cases hkl : k < n
    · obtain ⟨x, hx⟩ := HX.out k hkl
      have hcs := cntTo_step (Rep.str mkT) l k hx
      have hle := HLE.out (k + 1)
      obtain ⟨g, off, xs, Fk, rfl, _, hrd, _, hc⟩ := (HV.out.kept HBE.out).get (labRow_at (Rep.str mkT) k0 l k hx)
      simp only [show (Rep.str mkT).size = 1 from rfl, Nat.mul_one] at hc
      have hx1 : (Rep.str mkT).cnt x = 1 := rfl
      rw [hx1] at hcs
      have HCS := Lib.hid hcs
      have hcb0 : k0 + cntTo (Rep.str mkT) l k + 1 ≤ 1000000000 := by omega
      clear hcs
      generalize hcc : k0 + cntTo (Rep.str mkT) l k = c at *
      have hc1 : 1 ≤ c := by omega
      have HC := Lib.hid hcc
      clear hcc
      obtain ⟨rfl, _⟩ := id hrd
      have hc0 : wr.cell? ⟨g, off + k, none⟩ = some (.string (mkT c)) := hc 0 _ rfl
      have cV : ∀ d os, Calls Tryz.prog 65 #[.int .i64 (c : Int)] (grow (redrawn wr d) os) fun e w'' => e = .returned (.string (mkT c)) ∧ ∃ p : Regrown, w'' = grow (redrawn wr p.d) p.os :=
        fun d os => Calls.regrown_of (markText_any c _ (by omega) (by omega))
      have gc := fun d os => cell_regrown hc0 d os
      clear hc hc0 hrd hx
      go_wp2_with fail
      refine wp_region_quiet_below (by kernel_rfl) (by kernel_rfl) ?_
      repeat (quiet_step (exact cV _ _))
      refine wpQuiet_nil ?_
      intro _ hw'
      obtain ⟨⟨dq, osq⟩, hw''⟩ := hw'
      subst hw''
      go_wp2
      go_roundw
      case rel =>
        refine ⟨k + 1, by omega, by go_num, ?_, HBE.out.trans ((below_regrown wr dq osq).mono HBE.out.size)⟩
        have e1 := HCS.out
        have e2 := HC.out
        congr 1
        omega
      case measure => simp [intOf]; omega
    · obtain rfl : k = n := by omega
      have HCN := Lib.hid HEND.out
      go_wp2
      go_ret
      exact ⟨ret_i64 (by rw [HCN.out]), HBE.out⟩
end Go.Proofs.YtkaihnlknncfdaaGreatDoor

/- The walk of FnExactOptimalOutputs: it returns true at every argument. -/
namespace Go.Proofs.YtkaihnlknncfdaaGreatDoor.fnExactOptimalOutputs
set_option maxRecDepth 100000
open Go.RowKit Go.Proofs.YtkaihnlknncfdaaGreatDoor M
set_option linter.unusedVariables false
set_option linter.unusedSimpArgs false

theorem cntTab_le3 {x : DTableau} (h : rTableau.sz x ≤ 1048576) : 1 + cntTab x ≤ 990000000 := by
  rw [rTableau_sz] at h
  have h1 := cntRow_le (Rep.str mkT) 1 (fun y => by show 1 ≤ 1 * (y.size + 1); omega) x.Names
  have h2 := cntRow_le rCandidate 2 (fun y => by
    have h3 := cntRow_le rLink 2 (fun z => by show 1 + 1 ≤ 2 * (0 + 0 + 1); omega) y.Links
    rw [rCandidate_cnt, rCandidate_sz]
    omega) x.Rows
  have h4 := cntRow_le (Rep.row Rep.int) 1 (fun y => by
    have h5 := cntRow_le Rep.int 1 (fun z => by show 1 ≤ 1 * (0 + 1); omega) y
    show cntRow Rep.int y ≤ 1 * (szRow Rep.int y + 1)
    omega) x.Marks
  unfold cntTab
  omega
theorem cntRow_strs (l : List ByteArray) : cntRow (Rep.str mkT) l = l.length := by
  induction l with
  | nil => rfl
  | cons x l ih => unfold cntRow at *; rw [List.map_cons, List.sum_cons, ih, List.length_cons, show (Rep.str mkT).cnt x = 1 from rfl]; omega
theorem cntOpt (x : DTableau) (r : List Int) : cntRow (Rep.str mkT) (optL x r) ≤ 250 := by
  rw [cntRow_strs]
  have h1 := optTo_len x (winW x r) (winW x r).length
  have h2 := winW_250 x r
  unfold optL
  omega
set_option maxHeartbeats 16000000 in
theorem walk (w : World) (hT : FeatTab w) (x : DTableau) (F1 F2 F3 : Addr → Prop) (v1 v2 v3 : Value) (hv : TabRd false w v1 v2 v3 x F1 F2 F3) (vr : Value) (r : List Int) (Fr : Addr → Prop) (hvr : RowRd Rep.int false w vr r Fr) :
    Calls Tryz.prog 4 #[.agg #[.string x.Input, v1, v2, v3], vr] w fun e w' => e = .returned (.bool true) ∧ Below w.heap.size w w' := by
  obtain ⟨A1, c1, rfl⟩ := hv.names.form
  obtain ⟨A2, c2, rfl⟩ := hv.rows.form
  obtain ⟨A3, c3, rfl⟩ := hv.marks.form
  have HV := Lib.hid hv.tight
  have HFT := Lib.hid hT
  clear hv hT
  have HB := Lib.hid (Below.refl w.heap.size w)
  obtain ⟨Ar, kr, rfl⟩ := hvr.form
  have HVr := Lib.hid (hvr.tight.mono (G := fun a => a.block < w.heap.size) (fun a ha => ha.2))
  have hmr := hvr.max
  clear hvr
  go_enter Tryz.func4, Tryz.ntmps4
  by_cases hlen : (1048576 : Int) < (r.length : Int)
  case pos =>
    go_wp2
    go_ret
    exact ⟨rfl, (Below.refl _ _).alloc (Nat.le_refl _) _⟩
  have HSZr : Hid (szRow Rep.int r ≤ 1048576) := by unfold Hid; rw [szRow_flat _ (fun _ => rfl)]; omega
  have HC : Hid (∀ W, Below w.heap.size w W → Calls Tryz.prog 12 #[.agg #[.string x.Input, .slice A1 x.Names.length c1, .slice A2 x.Rows.length c2, .slice A3 x.Marks.length c3], .int .i64 1048576] W fun e w' => (∃ z : Int, e = .returned (.int .i64 z) ∧ (z < 0 ∨ z + (rTableau.sz x : Nat) = 1048576 ∧ 0 ≤ z)) ∧ Below W.heap.size W w') := fun W hW => szTableau_any x _ _ _ 1048576 _ _ _ W (by omega) (by omega) (HV.out.kept hW)
  go_wp2_with fail
  refine (HC.out _ (by first | exact Below.refl _ _ | exact (Below.refl _ _).alloc (Nat.le_refl _) _ | exact (Below.refl _ _).drew)).mono ?_
  rintro e w1 ⟨⟨z, rfl, hz⟩, hb⟩
  have hbn : Below w.heap.size w w1 := below_step (by first | exact Below.refl _ _ | exact (Below.refl _ _).alloc (Nat.le_refl _) _ | exact (Below.refl _ _).drew) hb
  have hs1 : Hid (w.heap.size ≤ w1.heap.size) := hbn.size
  replace HV := Lib.hid (HV.out.kept hbn)
  replace HVr := Lib.hid (HVr.out.kept hbn)
  replace HB := Lib.hid (HB.out.trans (hbn.mono HB.out.size))
  have HA : Hid (InC w1 w.heap.size #[.string x.Input, .slice A1 x.Names.length c1, .slice A2 x.Rows.length c2, .slice A3 x.Marks.length c3] 26) := (hb.block _ (by simp)).trans (heap_alloc_new _ _)
  have HA0 : Hid (w.heap.size < w1.heap.size) := (HA.out.lt : _ < _)
  clear hb hbn HC
  by_cases hneg : z < 0
  case pos =>
    go_wp2
    go_ret
    exact ⟨rfl, HB.out⟩
  have HSZ : Hid (rTableau.sz x ≤ 1048576) := by unfold Hid; have := hz.resolve_left hneg; omega
  clear hz
  have HC : Hid (∀ W, Below w1.heap.size w1 W → Calls Tryz.prog 14 #[.agg #[.string x.Input, .slice A1 x.Names.length c1, .slice A2 x.Rows.length c2, .slice A3 x.Marks.length c3]] W (TabPost x W)) := fun W hW => toTableau_any x _ _ _ _ _ _ W HSZ.out (HV.out.kept hW)
  have bHA0 := HA.out.cell 0 rfl
  have bHA1 := HA.out.cell 1 rfl
  have bHA2 := HA.out.cell 2 rfl
  have bHA3 := HA.out.cell 3 rfl
  go_wp2_with fail
  refine (HC.out _ (by first | exact Below.refl _ _ | exact (Below.refl _ _).alloc (Nat.le_refl _) _ | exact (Below.refl _ _).drew)).mono ?_
  rintro e w2 ⟨Au1, cu1, Au2, cu2, Au3, cu3, Gu1, Gu2, Gu3, rfl, hq, hg, hb⟩
  clear bHA0 bHA1 bHA2 bHA3
  have hbn : Below w1.heap.size w1 w2 := below_step (by first | exact Below.refl _ _ | exact (Below.refl _ _).alloc (Nat.le_refl _) _ | exact (Below.refl _ _).drew) hb
  have hs2 : Hid (w1.heap.size ≤ w2.heap.size) := hbn.size
  replace HV := Lib.hid (HV.out.kept hbn)
  replace HVr := Lib.hid (HVr.out.kept hbn)
  replace HA := Lib.hid (HA.out.kept hbn)
  replace HB := Lib.hid (HB.out.trans (hbn.mono HB.out.size))
  have Hu := Lib.hid hq
  have Ru : Hid (∀ a, Gu1 a ∨ Gu2 a ∨ Gu3 a → w1.heap.size ≤ a.block ∧ a.block < w2.heap.size) := fun a ha => ⟨Nat.le_trans (Below.size (B := w1.heap.size) (w := w1) (by first | exact Below.refl _ _ | exact (Below.refl _ _).alloc (Nat.le_refl _) _ | exact (Below.refl _ _).drew)) (hg a ha).1, (hg a ha).2⟩
  clear hb hbn HC hq hg
  have HC : Hid (∀ W, Below w2.heap.size w2 W → Calls Tryz.prog 15 #[.slice Ar r.length kr] W (OwnPost Rep.int r W)) := fun W hW => toIntS_any _ r _ W HSZr.out (HVr.out.kept hW)
  have bHA0 := HA.out.cell 0 rfl
  have bHA1 := HA.out.cell 1 rfl
  have bHA2 := HA.out.cell 2 rfl
  have bHA3 := HA.out.cell 3 rfl
  go_wp2_with fail
  refine (HC.out _ (by first | exact Below.refl _ _ | exact (Below.refl _ _).alloc (Nat.le_refl _) _ | exact (Below.refl _ _).drew)).mono ?_
  rintro e w3 ⟨u2, rfl, hq, hb⟩
  clear bHA0 bHA1 bHA2 bHA3
  have hbn : Below w2.heap.size w2 w3 := below_step (by first | exact Below.refl _ _ | exact (Below.refl _ _).alloc (Nat.le_refl _) _ | exact (Below.refl _ _).drew) hb
  have hs3 : Hid (w2.heap.size ≤ w3.heap.size) := hbn.size
  replace HV := Lib.hid (HV.out.kept hbn)
  replace HVr := Lib.hid (HVr.out.kept hbn)
  replace HA := Lib.hid (HA.out.kept hbn)
  replace Hu := Lib.hid (Hu.out.kept hbn)
  replace HB := Lib.hid (HB.out.trans (hbn.mono HB.out.size))
  have Hu2 := Lib.hid (hq.tight.mono (G := fun a => w2.heap.size ≤ a.block ∧ a.block < w3.heap.size) (fun a ha => ⟨Nat.le_trans (Below.size (B := w2.heap.size) (w := w2) (by first | exact Below.refl _ _ | exact (Below.refl _ _).alloc (Nat.le_refl _) _ | exact (Below.refl _ _).drew)) ha.1, ha.2⟩))
  clear hb hbn HC hq
  have HC : Hid (∀ W, Below w3.heap.size w3 W → Calls Tryz.prog 22 #[.agg #[.string x.Input, .slice Au1 x.Names.length cu1, .slice Au2 x.Rows.length cu2, .slice Au3 x.Marks.length cu3], u2] W (OptPost (optL x r) W)) := fun W hW => specOpt_any x r Au1 cu1 Au2 cu2 Au3 cu3 _ _ _ _ _ W HSZ.out (Hu.out.kept hW).weak (Hu2.out.kept hW).weak
  have bHA0 := HA.out.cell 0 rfl
  have bHA1 := HA.out.cell 1 rfl
  have bHA2 := HA.out.cell 2 rfl
  have bHA3 := HA.out.cell 3 rfl
  go_wp2_with fail
  refine (HC.out _ (by first | exact Below.refl _ _ | exact (Below.refl _ _).alloc (Nat.le_refl _) _ | exact (Below.refl _ _).drew)).mono ?_
  rintro e w4 ⟨g0, rfl, hq, hb⟩
  clear bHA0 bHA1 bHA2 bHA3
  have hbn : Below w3.heap.size w3 w4 := below_step (by first | exact Below.refl _ _ | exact (Below.refl _ _).alloc (Nat.le_refl _) _ | exact (Below.refl _ _).drew) hb
  have hs4 : Hid (w3.heap.size ≤ w4.heap.size) := hbn.size
  replace HV := Lib.hid (HV.out.kept hbn)
  replace HVr := Lib.hid (HVr.out.kept hbn)
  replace HA := Lib.hid (HA.out.kept hbn)
  replace Hu := Lib.hid (Hu.out.kept hbn)
  replace Hu2 := Lib.hid (Hu2.out.kept hbn)
  replace HB := Lib.hid (HB.out.trans (hbn.mono HB.out.size))
  have Hg0 := Lib.hid (hq.tight.mono (G := fun a => w3.heap.size ≤ a.block ∧ a.block < w4.heap.size) (fun a ha => ⟨Nat.le_trans (Below.size (B := w3.heap.size) (w := w3) (by first | exact Below.refl _ _ | exact (Below.refl _ _).alloc (Nat.le_refl _) _ | exact (Below.refl _ _).drew)) ha.1, ha.2⟩))
  clear hb hbn HC hq
  clear Hu
  clear Hu2
  have HC : Hid (∀ W, Below w4.heap.size w4 W → Calls Tryz.prog 14 #[.agg #[.string x.Input, .slice A1 x.Names.length c1, .slice A2 x.Rows.length c2, .slice A3 x.Marks.length c3]] W (TabPost x W)) := fun W hW => toTableau_any x _ _ _ _ _ _ W HSZ.out (HV.out.kept hW)
  have bHA0 := HA.out.cell 0 rfl
  have bHA1 := HA.out.cell 1 rfl
  have bHA2 := HA.out.cell 2 rfl
  have bHA3 := HA.out.cell 3 rfl
  go_wp2_with fail
  refine (HC.out _ (by first | exact Below.refl _ _ | exact (Below.refl _ _).alloc (Nat.le_refl _) _ | exact (Below.refl _ _).drew)).mono ?_
  rintro e w5 ⟨Ax1, cx1, Ax2, cx2, Ax3, cx3, Gx1, Gx2, Gx3, rfl, hq, hg, hb⟩
  clear bHA0 bHA1 bHA2 bHA3
  have hbn : Below w4.heap.size w4 w5 := below_step (by first | exact Below.refl _ _ | exact (Below.refl _ _).alloc (Nat.le_refl _) _ | exact (Below.refl _ _).drew) hb
  have hs5 : Hid (w4.heap.size ≤ w5.heap.size) := hbn.size
  replace HV := Lib.hid (HV.out.kept hbn)
  replace HVr := Lib.hid (HVr.out.kept hbn)
  replace HA := Lib.hid (HA.out.kept hbn)
  replace Hg0 := Lib.hid (Hg0.out.kept hbn)
  replace HB := Lib.hid (HB.out.trans (hbn.mono HB.out.size))
  have Hx := Lib.hid hq
  have Rx : Hid (∀ a, Gx1 a ∨ Gx2 a ∨ Gx3 a → w4.heap.size ≤ a.block ∧ a.block < w5.heap.size) := fun a ha => ⟨Nat.le_trans (Below.size (B := w4.heap.size) (w := w4) (by first | exact Below.refl _ _ | exact (Below.refl _ _).alloc (Nat.le_refl _) _ | exact (Below.refl _ _).drew)) (hg a ha).1, (hg a ha).2⟩
  clear hb hbn HC hq hg
  have HC : Hid (∀ W, Below w5.heap.size w5 W → Calls Tryz.prog 15 #[.slice Ar r.length kr] W (OwnPost Rep.int r W)) := fun W hW => toIntS_any _ r _ W HSZr.out (HVr.out.kept hW)
  have bHA0 := HA.out.cell 0 rfl
  have bHA1 := HA.out.cell 1 rfl
  have bHA2 := HA.out.cell 2 rfl
  have bHA3 := HA.out.cell 3 rfl
  go_wp2_with fail
  refine (HC.out _ (by first | exact Below.refl _ _ | exact (Below.refl _ _).alloc (Nat.le_refl _) _ | exact (Below.refl _ _).drew)).mono ?_
  rintro e w6 ⟨x1, rfl, hq, hb⟩
  clear bHA0 bHA1 bHA2 bHA3
  have hbn : Below w5.heap.size w5 w6 := below_step (by first | exact Below.refl _ _ | exact (Below.refl _ _).alloc (Nat.le_refl _) _ | exact (Below.refl _ _).drew) hb
  have hs6 : Hid (w5.heap.size ≤ w6.heap.size) := hbn.size
  replace HV := Lib.hid (HV.out.kept hbn)
  replace HVr := Lib.hid (HVr.out.kept hbn)
  replace HA := Lib.hid (HA.out.kept hbn)
  replace Hg0 := Lib.hid (Hg0.out.kept hbn)
  replace Hx := Lib.hid (Hx.out.kept hbn)
  replace HB := Lib.hid (HB.out.trans (hbn.mono HB.out.size))
  have Hx1 := Lib.hid (hq.tight.mono (G := fun a => w5.heap.size ≤ a.block ∧ a.block < w6.heap.size) (fun a ha => ⟨Nat.le_trans (Below.size (B := w5.heap.size) (w := w5) (by first | exact Below.refl _ _ | exact (Below.refl _ _).alloc (Nat.le_refl _) _ | exact (Below.refl _ _).drew)) ha.1, ha.2⟩))
  have HX : Hid (InC w6 w5.heap.size #[.string x.Input, .slice Ax1 x.Names.length cx1, .slice Ax2 x.Rows.length cx2, .slice Ax3 x.Marks.length cx3] 32) := (hb.block _ (by simp)).trans (heap_alloc_new _ _)
  clear hb hbn HC hq
  have HC : Hid (∀ W, Below w6.heap.size w6 W → Calls Tryz.prog 23 #[.agg #[.string x.Input, .slice Ax1 x.Names.length cx1, .slice Ax2 x.Rows.length cx2, .slice Ax3 x.Marks.length cx3], x1] W (OptPost (optL x r) W)) := fun W hW => implOpt_any x r Ax1 cx1 Ax2 cx2 Ax3 cx3 _ _ _ _ _ W HSZ.out (Hx.out.kept hW).weak (Hx1.out.kept hW).weak (feat_below HFT.out (HB.out.trans (hW.mono HB.out.size)))
  have bHA0 := HA.out.cell 0 rfl
  have bHA1 := HA.out.cell 1 rfl
  have bHA2 := HA.out.cell 2 rfl
  have bHA3 := HA.out.cell 3 rfl
  have bHX0 := HX.out.cell 0 rfl
  have bHX1 := HX.out.cell 1 rfl
  have bHX2 := HX.out.cell 2 rfl
  have bHX3 := HX.out.cell 3 rfl
  go_wp2_with fail
  refine (HC.out _ (by first | exact Below.refl _ _ | exact (Below.refl _ _).alloc (Nat.le_refl _) _ | exact (Below.refl _ _).drew)).mono ?_
  rintro e w7 ⟨g1, rfl, hq, hb⟩
  clear bHA0 bHA1 bHA2 bHA3 bHX0 bHX1 bHX2 bHX3
  have hbn : Below w6.heap.size w6 w7 := below_step (by first | exact Below.refl _ _ | exact (Below.refl _ _).alloc (Nat.le_refl _) _ | exact (Below.refl _ _).drew) hb
  have hs7 : Hid (w6.heap.size ≤ w7.heap.size) := hbn.size
  replace HV := Lib.hid (HV.out.kept hbn)
  replace HVr := Lib.hid (HVr.out.kept hbn)
  replace HA := Lib.hid (HA.out.kept hbn)
  replace Hg0 := Lib.hid (Hg0.out.kept hbn)
  replace Hx := Lib.hid (Hx.out.kept hbn)
  replace Hx1 := Lib.hid (Hx1.out.kept hbn)
  replace HX := Lib.hid (HX.out.kept hbn)
  replace HB := Lib.hid (HB.out.trans (hbn.mono HB.out.size))
  have Hg1 := Lib.hid (hq.tight.mono (G := fun a => w6.heap.size ≤ a.block ∧ a.block < w7.heap.size) (fun a ha => ⟨Nat.le_trans (Below.size (B := w6.heap.size) (w := w6) (by first | exact Below.refl _ _ | exact (Below.refl _ _).alloc (Nat.le_refl _) _ | exact (Below.refl _ _).drew)) ha.1, ha.2⟩))
  clear hb hbn HC hq
  have HC : Hid (∀ W, Below w7.heap.size w7 W → Calls Tryz.prog 24 #[g1, g0] W fun e w' => e = .returned (.bool true) ∧ Below W.heap.size W w') := fun W hW => eqStrs_any _ _ (optL x r) _ _ W (Hg1.out.kept hW).weak (Hg0.out.kept hW).weak
  have bHA0 := HA.out.cell 0 rfl
  have bHA1 := HA.out.cell 1 rfl
  have bHA2 := HA.out.cell 2 rfl
  have bHA3 := HA.out.cell 3 rfl
  have bHX0 := HX.out.cell 0 rfl
  have bHX1 := HX.out.cell 1 rfl
  have bHX2 := HX.out.cell 2 rfl
  have bHX3 := HX.out.cell 3 rfl
  go_wp2_with fail
  refine (HC.out _ (by first | exact Below.refl _ _ | exact (Below.refl _ _).alloc (Nat.le_refl _) _ | exact (Below.refl _ _).drew)).mono ?_
  rintro e w8 ⟨rfl, hb⟩
  clear bHA0 bHA1 bHA2 bHA3 bHX0 bHX1 bHX2 bHX3
  have hbn : Below w7.heap.size w7 w8 := below_step (by first | exact Below.refl _ _ | exact (Below.refl _ _).alloc (Nat.le_refl _) _ | exact (Below.refl _ _).drew) hb
  have hs8 : Hid (w7.heap.size ≤ w8.heap.size) := hbn.size
  replace HV := Lib.hid (HV.out.kept hbn)
  replace HVr := Lib.hid (HVr.out.kept hbn)
  replace HA := Lib.hid (HA.out.kept hbn)
  replace Hg0 := Lib.hid (Hg0.out.kept hbn)
  replace Hx := Lib.hid (Hx.out.kept hbn)
  replace Hx1 := Lib.hid (Hx1.out.kept hbn)
  replace HX := Lib.hid (HX.out.kept hbn)
  replace Hg1 := Lib.hid (Hg1.out.kept hbn)
  replace HB := Lib.hid (HB.out.trans (hbn.mono HB.out.size))
  clear hb hbn HC
  have HTO : Hid (∀ W, Below w8.heap.size w8 W → Calls Tryz.prog 14 #[.agg #[.string x.Input, .slice A1 x.Names.length c1, .slice A2 x.Rows.length c2, .slice A3 x.Marks.length c3]] W (TabPost x W)) := fun W hW => toTableau_any x _ _ _ _ _ _ W HSZ.out (HV.out.kept hW)
  have HEQ : Hid (∀ (W : World) (u1 u2 u3 : Value) (G1 G2 G3 : Addr → Prop), Below w8.heap.size w8 W → TabRd true W u1 u2 u3 x G1 G2 G3 → Calls Tryz.prog 18 #[.agg #[.string x.Input, .slice Ax1 x.Names.length cx1, .slice Ax2 x.Rows.length cx2, .slice Ax3 x.Marks.length cx3], .agg #[.string x.Input, u1, u2, u3]] W fun e w' => e = .returned (.bool true) ∧ Below W.heap.size W w') := fun W u1 u2 u3 G1 G2 G3 hW hu => eqTableau_any x _ _ _ _ _ _ _ _ _ _ _ _ W (Hx.out.kept hW).weak hu.weak
  have HXK : Hid (∀ W : World, Below w8.heap.size w8 W → InC W _ #[.string x.Input, .slice Ax1 x.Names.length cx1, .slice Ax2 x.Rows.length cx2, .slice Ax3 x.Marks.length cx3] 32) := fun W hW => HX.out.kept hW
  have bHA0 := HA.out.cell 0 rfl
  have bHA1 := HA.out.cell 1 rfl
  have bHA2 := HA.out.cell 2 rfl
  have bHA3 := HA.out.cell 3 rfl
  have bHX0 := HX.out.cell 0 rfl
  have bHX1 := HX.out.cell 1 rfl
  have bHX2 := HX.out.cell 2 rfl
  have bHX3 := HX.out.cell 3 rfl
  go_upto_region 13 with fail
  go_cut [42] (fun b wx => b = .bool false ∧ Below w8.heap.size w8 wx)
  case first =>
    go_region_with (first | (go_simp; go_at_call 14; refine (HTO.out _ ((Below.refl _ _).drew)).mono ?_; rintro e wt ⟨At1, ct1, At2, ct2, At3, ct3, T1, T2, T3, rfl, hqt, hgt, hbt0⟩; have hbt : Below w8.heap.size w8 wt := below_step ((Below.refl _ _).drew) hbt0; have e0 := (HXK.out _ hbt).cell 0 rfl; have e1 := (HXK.out _ hbt).cell 1 rfl; have e2 := (HXK.out _ hbt).cell 2 rfl; have e3 := (HXK.out _ hbt).cell 3 rfl; have HBT := Lib.hid hbt; have HQT := Lib.hid hqt; clear hbt0 hqt hgt hbt) | (go_simp; go_at_call 18; refine (HEQ.out _ _ _ _ _ _ _ HBT.out HQT.out).mono ?_; rintro e wz ⟨rfl, hbz0⟩; have HBZ := Lib.hid (below_step HBT.out hbz0); clear hbz0))
    all_goals
      go_wp2_with fail
      go_meet
      exact ⟨rfl, HBZ.out⟩
  case rest =>
  obtain ⟨rfl, hbn⟩ := hcut
  clear HTO HEQ HXK
  clear bHA0 bHA1 bHA2 bHA3 bHX0 bHX1 bHX2 bHX3
  generalize wc = w9 at *
  have hs9 : Hid (w8.heap.size ≤ w9.heap.size) := hbn.size
  replace HV := Lib.hid (HV.out.kept hbn)
  replace HVr := Lib.hid (HVr.out.kept hbn)
  replace HA := Lib.hid (HA.out.kept hbn)
  replace Hg0 := Lib.hid (Hg0.out.kept hbn)
  replace Hx := Lib.hid (Hx.out.kept hbn)
  replace Hx1 := Lib.hid (Hx1.out.kept hbn)
  replace HX := Lib.hid (HX.out.kept hbn)
  replace Hg1 := Lib.hid (Hg1.out.kept hbn)
  replace HB := Lib.hid (HB.out.trans (hbn.mono HB.out.size))
  clear hbn
  have HC : Hid (∀ W, Below w9.heap.size w9 W → Calls Tryz.prog 15 #[.slice Ar r.length kr] W (OwnPost Rep.int r W)) := fun W hW => toIntS_any _ r _ W HSZr.out (HVr.out.kept hW)
  have bHA0 := HA.out.cell 0 rfl
  have bHA1 := HA.out.cell 1 rfl
  have bHA2 := HA.out.cell 2 rfl
  have bHA3 := HA.out.cell 3 rfl
  have bHX0 := HX.out.cell 0 rfl
  have bHX1 := HX.out.cell 1 rfl
  have bHX2 := HX.out.cell 2 rfl
  have bHX3 := HX.out.cell 3 rfl
  go_wp2_with fail
  refine (HC.out _ (by first | exact Below.refl _ _ | exact (Below.refl _ _).alloc (Nat.le_refl _) _ | exact (Below.refl _ _).drew)).mono ?_
  rintro e w10 ⟨y2, rfl, hq, hb⟩
  clear bHA0 bHA1 bHA2 bHA3 bHX0 bHX1 bHX2 bHX3
  have hbn : Below w9.heap.size w9 w10 := below_step (by first | exact Below.refl _ _ | exact (Below.refl _ _).alloc (Nat.le_refl _) _ | exact (Below.refl _ _).drew) hb
  have hs10 : Hid (w9.heap.size ≤ w10.heap.size) := hbn.size
  replace HV := Lib.hid (HV.out.kept hbn)
  replace HVr := Lib.hid (HVr.out.kept hbn)
  replace HA := Lib.hid (HA.out.kept hbn)
  replace Hg0 := Lib.hid (Hg0.out.kept hbn)
  replace Hx := Lib.hid (Hx.out.kept hbn)
  replace Hx1 := Lib.hid (Hx1.out.kept hbn)
  replace HX := Lib.hid (HX.out.kept hbn)
  replace Hg1 := Lib.hid (Hg1.out.kept hbn)
  replace HB := Lib.hid (HB.out.trans (hbn.mono HB.out.size))
  have Hy2 := Lib.hid (hq.tight.mono (G := fun a => w9.heap.size ≤ a.block ∧ a.block < w10.heap.size) (fun a ha => ⟨Nat.le_trans (Below.size (B := w9.heap.size) (w := w9) (by first | exact Below.refl _ _ | exact (Below.refl _ _).alloc (Nat.le_refl _) _ | exact (Below.refl _ _).drew)) ha.1, ha.2⟩))
  clear hb hbn HC hq
  have HC : Hid (∀ W, Below w10.heap.size w10 W → Calls Tryz.prog 17 #[x1, y2] W fun e w' => e = .returned (.bool true) ∧ Below W.heap.size W w') := fun W hW => eqIntS_any _ _ (r) _ _ W (Hx1.out.kept hW).weak (Hy2.out.kept hW).weak
  have bHA0 := HA.out.cell 0 rfl
  have bHA1 := HA.out.cell 1 rfl
  have bHA2 := HA.out.cell 2 rfl
  have bHA3 := HA.out.cell 3 rfl
  have bHX0 := HX.out.cell 0 rfl
  have bHX1 := HX.out.cell 1 rfl
  have bHX2 := HX.out.cell 2 rfl
  have bHX3 := HX.out.cell 3 rfl
  go_wp2_with fail
  refine (HC.out _ (by first | exact Below.refl _ _ | exact (Below.refl _ _).alloc (Nat.le_refl _) _ | exact (Below.refl _ _).drew)).mono ?_
  rintro e w11 ⟨rfl, hb⟩
  clear bHA0 bHA1 bHA2 bHA3 bHX0 bHX1 bHX2 bHX3
  have hbn : Below w10.heap.size w10 w11 := below_step (by first | exact Below.refl _ _ | exact (Below.refl _ _).alloc (Nat.le_refl _) _ | exact (Below.refl _ _).drew) hb
  have hs11 : Hid (w10.heap.size ≤ w11.heap.size) := hbn.size
  replace HV := Lib.hid (HV.out.kept hbn)
  replace HVr := Lib.hid (HVr.out.kept hbn)
  replace HA := Lib.hid (HA.out.kept hbn)
  replace Hg0 := Lib.hid (Hg0.out.kept hbn)
  replace Hx := Lib.hid (Hx.out.kept hbn)
  replace Hx1 := Lib.hid (Hx1.out.kept hbn)
  replace HX := Lib.hid (HX.out.kept hbn)
  replace Hg1 := Lib.hid (Hg1.out.kept hbn)
  replace Hy2 := Lib.hid (Hy2.out.kept hbn)
  replace HB := Lib.hid (HB.out.trans (hbn.mono HB.out.size))
  clear hb hbn HC
  clear Hy2
  have HCG : Hid (1 + cntRow (Rep.str mkT) (optL x r) ≤ 1000000000) := by unfold Hid; have h1 := cntOpt x r; omega
  obtain ⟨cx, hcx⟩ : ∃ q : Nat, 1 + cntTab x = q := ⟨_, rfl⟩
  have hncx : ¬ ((cx : Nat) : Int) < 0 := by omega
  have HM := Lib.hid (markTableau_any x (.slice Ax1 x.Names.length cx1) (.slice Ax2 x.Rows.length cx2) (.slice Ax3 x.Marks.length cx3) 1 1 rfl w4.heap.size _ _ _ w11 (by have := hs1.out; have := hs2.out; have := hs3.out; have := hs4.out; have := hs5.out; have := hs6.out; have := hs7.out; have := hs8.out; have := hs9.out; have := hs10.out; have := hs11.out; omega) (fun a ha => (Rx.out a ha).1) (cntTab_le HSZ.out) (Nat.le_refl 1) Hx.out)
  rw [hcx] at HM
  have bHA0 := HA.out.cell 0 rfl
  have bHA1 := HA.out.cell 1 rfl
  have bHA2 := HA.out.cell 2 rfl
  have bHA3 := HA.out.cell 3 rfl
  have bHX0 := HX.out.cell 0 rfl
  have bHX1 := HX.out.cell 1 rfl
  have bHX2 := HX.out.cell 2 rfl
  have bHX3 := HX.out.cell 3 rfl
  go_wp2_with fail
  refine HM.out.mono ?_
  rintro e w12 ⟨rfl, hq, hu, hb⟩
  have hs12 : Hid (w11.heap.size ≤ w12.heap.size) := hu.size
  clear bHA0 bHA1 bHA2 bHA3 bHX0 bHX1 bHX2 bHX3
  clear HX
  replace HV := Lib.hid (HV.out.apart hu (fun a ha hf => by rcases ha with ha | ha | ha <;> (have h1 := ha.2; have h2 := (Rx.out a hf).1; have h3 := (Rx.out a hf).2; have := hs1.out; have := hs2.out; have := hs3.out; have := hs4.out; have := hs5.out; have := hs6.out; have := hs7.out; have := hs8.out; have := hs9.out; have := hs10.out; have := hs11.out; have := hs12.out; omega)))
  replace HVr := Lib.hid (HVr.out.apart hu (fun a ha hf => by have h2 := (Rx.out a hf).1; have h3 := (Rx.out a hf).2; have := hs1.out; have := hs2.out; have := hs3.out; have := hs4.out; have := hs5.out; have := hs6.out; have := hs7.out; have := hs8.out; have := hs9.out; have := hs10.out; have := hs11.out; have := hs12.out; omega))
  replace HA := Lib.hid (HA.out.keptB hb (by have := hs1.out; have := hs2.out; have := hs3.out; have := hs4.out; have := hs5.out; have := hs6.out; have := hs7.out; have := hs8.out; have := hs9.out; have := hs10.out; have := hs11.out; have := hs12.out; have := HA0.out; omega))
  replace Hg0 := Lib.hid (Hg0.out.apart hu (fun a ha hf => by have h2 := (Rx.out a hf).1; have h3 := (Rx.out a hf).2; have := hs1.out; have := hs2.out; have := hs3.out; have := hs4.out; have := hs5.out; have := hs6.out; have := hs7.out; have := hs8.out; have := hs9.out; have := hs10.out; have := hs11.out; have := hs12.out; omega))
  replace Hx1 := Lib.hid (Hx1.out.apart hu (fun a ha hf => by have h2 := (Rx.out a hf).1; have h3 := (Rx.out a hf).2; have := hs1.out; have := hs2.out; have := hs3.out; have := hs4.out; have := hs5.out; have := hs6.out; have := hs7.out; have := hs8.out; have := hs9.out; have := hs10.out; have := hs11.out; have := hs12.out; omega))
  replace Hg1 := Lib.hid (Hg1.out.apart hu (fun a ha hf => by have h2 := (Rx.out a hf).1; have h3 := (Rx.out a hf).2; have := hs1.out; have := hs2.out; have := hs3.out; have := hs4.out; have := hs5.out; have := hs6.out; have := hs7.out; have := hs8.out; have := hs9.out; have := hs10.out; have := hs11.out; have := hs12.out; omega))
  replace HB := Lib.hid (HB.out.trans (hb.mono (by have := hs1.out; have := hs2.out; have := hs3.out; have := hs4.out; have := hs5.out; have := hs6.out; have := hs7.out; have := hs8.out; have := hs9.out; have := hs10.out; have := hs11.out; have := hs12.out; omega)))
  clear HM hq hu hb
  have HCR : Hid (cx + cntRow Rep.int r ≤ 1000000000) := by unfold Hid; rw [cntRow_int]; have h1 := cntTab_le3 HSZ.out; omega
  obtain ⟨cr, hcr⟩ : ∃ q : Nat, cx + cntRow Rep.int (r) = q := ⟨_, rfl⟩
  have hncr : ¬ ((cr : Nat) : Int) < 0 := by omega
  have HM := Lib.hid (markIntS_any x1 (r) ((cx : Nat) : Int) cx rfl w5.heap.size _ w12 (fun a ha => by have := hs1.out; have := hs2.out; have := hs3.out; have := hs4.out; have := hs5.out; have := hs6.out; have := hs7.out; have := hs8.out; have := hs9.out; have := hs10.out; have := hs11.out; have := hs12.out; omega) HCR.out (by omega) Hx1.out)
  rw [hcr] at HM
  have bHA0 := HA.out.cell 0 rfl
  have bHA1 := HA.out.cell 1 rfl
  have bHA2 := HA.out.cell 2 rfl
  have bHA3 := HA.out.cell 3 rfl
  go_wp2_with fail
  refine HM.out.mono ?_
  rintro e w13 ⟨rfl, hq, hu, hb⟩
  have hs13 : Hid (w12.heap.size ≤ w13.heap.size) := hu.size
  clear bHA0 bHA1 bHA2 bHA3
  replace HV := Lib.hid (HV.out.apart hu (fun a ha hf => by rcases ha with ha | ha | ha <;> (have h1 := ha.2;  have := hs1.out; have := hs2.out; have := hs3.out; have := hs4.out; have := hs5.out; have := hs6.out; have := hs7.out; have := hs8.out; have := hs9.out; have := hs10.out; have := hs11.out; have := hs12.out; have := hs13.out; omega)))
  replace HVr := Lib.hid (HVr.out.apart hu (fun a ha hf => by  have := hs1.out; have := hs2.out; have := hs3.out; have := hs4.out; have := hs5.out; have := hs6.out; have := hs7.out; have := hs8.out; have := hs9.out; have := hs10.out; have := hs11.out; have := hs12.out; have := hs13.out; omega))
  replace HA := Lib.hid (HA.out.keptB hb (by have := hs1.out; have := hs2.out; have := hs3.out; have := hs4.out; have := hs5.out; have := hs6.out; have := hs7.out; have := hs8.out; have := hs9.out; have := hs10.out; have := hs11.out; have := hs12.out; have := hs13.out; have := HA0.out; omega))
  replace Hg0 := Lib.hid (Hg0.out.apart hu (fun a ha hf => by  have := hs1.out; have := hs2.out; have := hs3.out; have := hs4.out; have := hs5.out; have := hs6.out; have := hs7.out; have := hs8.out; have := hs9.out; have := hs10.out; have := hs11.out; have := hs12.out; have := hs13.out; omega))
  replace Hg1 := Lib.hid (Hg1.out.apart hu (fun a ha hf => by  have := hs1.out; have := hs2.out; have := hs3.out; have := hs4.out; have := hs5.out; have := hs6.out; have := hs7.out; have := hs8.out; have := hs9.out; have := hs10.out; have := hs11.out; have := hs12.out; have := hs13.out; omega))
  replace Hx1 := Lib.hid hq
  replace HB := Lib.hid (HB.out.trans (hb.mono (by have := hs1.out; have := hs2.out; have := hs3.out; have := hs4.out; have := hs5.out; have := hs6.out; have := hs7.out; have := hs8.out; have := hs9.out; have := hs10.out; have := hs11.out; have := hs12.out; have := hs13.out; omega)))
  clear HM hq hu hb
  have HC : Hid (∀ W, Below w13.heap.size w13 W → Calls Tryz.prog 24 #[g1, g0] W fun e w' => e = .returned (.bool true) ∧ Below W.heap.size W w') := fun W hW => eqStrs_any _ _ (optL x r) _ _ W (Hg1.out.kept hW).weak (Hg0.out.kept hW).weak
  have bHA0 := HA.out.cell 0 rfl
  have bHA1 := HA.out.cell 1 rfl
  have bHA2 := HA.out.cell 2 rfl
  have bHA3 := HA.out.cell 3 rfl
  go_wp2_with fail
  refine (HC.out _ (by first | exact Below.refl _ _ | exact (Below.refl _ _).alloc (Nat.le_refl _) _ | exact (Below.refl _ _).drew)).mono ?_
  rintro e w14 ⟨rfl, hb⟩
  clear bHA0 bHA1 bHA2 bHA3
  have hbn : Below w13.heap.size w13 w14 := below_step (by first | exact Below.refl _ _ | exact (Below.refl _ _).alloc (Nat.le_refl _) _ | exact (Below.refl _ _).drew) hb
  have hs14 : Hid (w13.heap.size ≤ w14.heap.size) := hbn.size
  replace HV := Lib.hid (HV.out.kept hbn)
  replace HVr := Lib.hid (HVr.out.kept hbn)
  replace HA := Lib.hid (HA.out.kept hbn)
  replace Hg0 := Lib.hid (Hg0.out.kept hbn)
  replace Hx1 := Lib.hid (Hx1.out.kept hbn)
  replace Hg1 := Lib.hid (Hg1.out.kept hbn)
  replace HB := Lib.hid (HB.out.trans (hbn.mono HB.out.size))
  clear hb hbn HC
  obtain ⟨cg, hcg⟩ : ∃ q : Nat, 1 + cntRow (Rep.str mkT) (optL x r) = q := ⟨_, rfl⟩
  have hncg : ¬ ((cg : Nat) : Int) < 0 := by omega
  have HM := Lib.hid (markStrs_any g1 (optL x r) 1 1 rfl w6.heap.size _ w14 (fun a ha => by have := hs1.out; have := hs2.out; have := hs3.out; have := hs4.out; have := hs5.out; have := hs6.out; have := hs7.out; have := hs8.out; have := hs9.out; have := hs10.out; have := hs11.out; have := hs12.out; have := hs13.out; have := hs14.out; omega) HCG.out (Nat.le_refl 1) (by have := hs1.out; have := hs2.out; have := hs3.out; have := hs4.out; have := hs5.out; have := hs6.out; have := hs7.out; have := hs8.out; have := hs9.out; have := hs10.out; have := hs11.out; have := hs12.out; have := hs13.out; have := hs14.out; omega) Hg1.out)
  rw [hcg] at HM
  have bHA0 := HA.out.cell 0 rfl
  have bHA1 := HA.out.cell 1 rfl
  have bHA2 := HA.out.cell 2 rfl
  have bHA3 := HA.out.cell 3 rfl
  go_wp2_with fail
  refine HM.out.mono ?_
  rintro e w15 ⟨rfl, hq, hu, hb⟩
  have hs15 : Hid (w14.heap.size ≤ w15.heap.size) := hu.size
  clear bHA0 bHA1 bHA2 bHA3
  replace HV := Lib.hid (HV.out.apart hu (fun a ha hf => by rcases ha with ha | ha | ha <;> (have h1 := ha.2;  have := hs1.out; have := hs2.out; have := hs3.out; have := hs4.out; have := hs5.out; have := hs6.out; have := hs7.out; have := hs8.out; have := hs9.out; have := hs10.out; have := hs11.out; have := hs12.out; have := hs13.out; have := hs14.out; have := hs15.out; omega)))
  replace HVr := Lib.hid (HVr.out.apart hu (fun a ha hf => by  have := hs1.out; have := hs2.out; have := hs3.out; have := hs4.out; have := hs5.out; have := hs6.out; have := hs7.out; have := hs8.out; have := hs9.out; have := hs10.out; have := hs11.out; have := hs12.out; have := hs13.out; have := hs14.out; have := hs15.out; omega))
  replace HA := Lib.hid (HA.out.keptB hb (by have := hs1.out; have := hs2.out; have := hs3.out; have := hs4.out; have := hs5.out; have := hs6.out; have := hs7.out; have := hs8.out; have := hs9.out; have := hs10.out; have := hs11.out; have := hs12.out; have := hs13.out; have := hs14.out; have := hs15.out; have := HA0.out; omega))
  replace Hg0 := Lib.hid (Hg0.out.apart hu (fun a ha hf => by  have := hs1.out; have := hs2.out; have := hs3.out; have := hs4.out; have := hs5.out; have := hs6.out; have := hs7.out; have := hs8.out; have := hs9.out; have := hs10.out; have := hs11.out; have := hs12.out; have := hs13.out; have := hs14.out; have := hs15.out; omega))
  replace Hx1 := Lib.hid (Hx1.out.apart hu (fun a ha hf => by  have := hs1.out; have := hs2.out; have := hs3.out; have := hs4.out; have := hs5.out; have := hs6.out; have := hs7.out; have := hs8.out; have := hs9.out; have := hs10.out; have := hs11.out; have := hs12.out; have := hs13.out; have := hs14.out; have := hs15.out; omega))
  replace Hg1 := Lib.hid hq
  replace HB := Lib.hid (HB.out.trans (hb.mono (by have := hs1.out; have := hs2.out; have := hs3.out; have := hs4.out; have := hs5.out; have := hs6.out; have := hs7.out; have := hs8.out; have := hs9.out; have := hs10.out; have := hs11.out; have := hs12.out; have := hs13.out; have := hs14.out; have := hs15.out; omega)))
  clear HM hq hu hb
  have HC : Hid (∀ W, Below w15.heap.size w15 W → Calls Tryz.prog 26 #[g1, .int .i64 1] W fun e w' => e = .returned (.int .i64 ((cg : Nat) : Int)) ∧ Below W.heap.size W w') := fun W hW => by have := heldStrs_any g1 (optL x r) 1 1 rfl _ W HCG.out (Nat.le_refl 1) (Hg1.out.kept hW).weak; rw [hcg] at this; exact this
  have bHA0 := HA.out.cell 0 rfl
  have bHA1 := HA.out.cell 1 rfl
  have bHA2 := HA.out.cell 2 rfl
  have bHA3 := HA.out.cell 3 rfl
  go_wp2_with fail
  refine (HC.out _ (by first | exact Below.refl _ _ | exact (Below.refl _ _).alloc (Nat.le_refl _) _ | exact (Below.refl _ _).drew)).mono ?_
  rintro e w16 ⟨rfl, hb⟩
  clear bHA0 bHA1 bHA2 bHA3
  have hbn : Below w15.heap.size w15 w16 := below_step (by first | exact Below.refl _ _ | exact (Below.refl _ _).alloc (Nat.le_refl _) _ | exact (Below.refl _ _).drew) hb
  have hs16 : Hid (w15.heap.size ≤ w16.heap.size) := hbn.size
  replace HV := Lib.hid (HV.out.kept hbn)
  replace HVr := Lib.hid (HVr.out.kept hbn)
  replace HA := Lib.hid (HA.out.kept hbn)
  replace Hg0 := Lib.hid (Hg0.out.kept hbn)
  replace Hx1 := Lib.hid (Hx1.out.kept hbn)
  replace Hg1 := Lib.hid (Hg1.out.kept hbn)
  replace HB := Lib.hid (HB.out.trans (hbn.mono HB.out.size))
  clear hb hbn HC
  have HC : Hid (∀ W, Below w16.heap.size w16 W → Calls Tryz.prog 14 #[.agg #[.string x.Input, .slice A1 x.Names.length c1, .slice A2 x.Rows.length c2, .slice A3 x.Marks.length c3]] W (TabPost x W)) := fun W hW => toTableau_any x _ _ _ _ _ _ W HSZ.out (HV.out.kept hW)
  have bHA0 := HA.out.cell 0 rfl
  have bHA1 := HA.out.cell 1 rfl
  have bHA2 := HA.out.cell 2 rfl
  have bHA3 := HA.out.cell 3 rfl
  go_wp2_with fail
  refine (HC.out _ (by first | exact Below.refl _ _ | exact (Below.refl _ _).alloc (Nat.le_refl _) _ | exact (Below.refl _ _).drew)).mono ?_
  rintro e w17 ⟨Ay1, cy1, Ay2, cy2, Ay3, cy3, Gy1, Gy2, Gy3, rfl, hq, hg, hb⟩
  clear bHA0 bHA1 bHA2 bHA3
  have hbn : Below w16.heap.size w16 w17 := below_step (by first | exact Below.refl _ _ | exact (Below.refl _ _).alloc (Nat.le_refl _) _ | exact (Below.refl _ _).drew) hb
  have hs17 : Hid (w16.heap.size ≤ w17.heap.size) := hbn.size
  replace HV := Lib.hid (HV.out.kept hbn)
  replace HVr := Lib.hid (HVr.out.kept hbn)
  replace HA := Lib.hid (HA.out.kept hbn)
  replace Hg0 := Lib.hid (Hg0.out.kept hbn)
  replace Hx1 := Lib.hid (Hx1.out.kept hbn)
  replace Hg1 := Lib.hid (Hg1.out.kept hbn)
  replace HB := Lib.hid (HB.out.trans (hbn.mono HB.out.size))
  have Hy := Lib.hid hq
  have Ry : Hid (∀ a, Gy1 a ∨ Gy2 a ∨ Gy3 a → w16.heap.size ≤ a.block ∧ a.block < w17.heap.size) := fun a ha => ⟨Nat.le_trans (Below.size (B := w16.heap.size) (w := w16) (by first | exact Below.refl _ _ | exact (Below.refl _ _).alloc (Nat.le_refl _) _ | exact (Below.refl _ _).drew)) (hg a ha).1, (hg a ha).2⟩
  clear hb hbn HC hq hg
  have HC : Hid (∀ W, Below w17.heap.size w17 W → Calls Tryz.prog 15 #[.slice Ar r.length kr] W (OwnPost Rep.int r W)) := fun W hW => toIntS_any _ r _ W HSZr.out (HVr.out.kept hW)
  have bHA0 := HA.out.cell 0 rfl
  have bHA1 := HA.out.cell 1 rfl
  have bHA2 := HA.out.cell 2 rfl
  have bHA3 := HA.out.cell 3 rfl
  go_wp2_with fail
  refine (HC.out _ (by first | exact Below.refl _ _ | exact (Below.refl _ _).alloc (Nat.le_refl _) _ | exact (Below.refl _ _).drew)).mono ?_
  rintro e w18 ⟨y3, rfl, hq, hb⟩
  clear bHA0 bHA1 bHA2 bHA3
  have hbn : Below w17.heap.size w17 w18 := below_step (by first | exact Below.refl _ _ | exact (Below.refl _ _).alloc (Nat.le_refl _) _ | exact (Below.refl _ _).drew) hb
  have hs18 : Hid (w17.heap.size ≤ w18.heap.size) := hbn.size
  replace HV := Lib.hid (HV.out.kept hbn)
  replace HVr := Lib.hid (HVr.out.kept hbn)
  replace HA := Lib.hid (HA.out.kept hbn)
  replace Hg0 := Lib.hid (Hg0.out.kept hbn)
  replace Hx1 := Lib.hid (Hx1.out.kept hbn)
  replace Hg1 := Lib.hid (Hg1.out.kept hbn)
  replace Hy := Lib.hid (Hy.out.kept hbn)
  replace HB := Lib.hid (HB.out.trans (hbn.mono HB.out.size))
  have Hy3 := Lib.hid (hq.tight.mono (G := fun a => w17.heap.size ≤ a.block ∧ a.block < w18.heap.size) (fun a ha => ⟨Nat.le_trans (Below.size (B := w17.heap.size) (w := w17) (by first | exact Below.refl _ _ | exact (Below.refl _ _).alloc (Nat.le_refl _) _ | exact (Below.refl _ _).drew)) ha.1, ha.2⟩))
  clear hb hbn HC hq
  have HC : Hid (∀ W, Below w18.heap.size w18 W → Calls Tryz.prog 23 #[.agg #[.string x.Input, .slice Ay1 x.Names.length cy1, .slice Ay2 x.Rows.length cy2, .slice Ay3 x.Marks.length cy3], y3] W (OptPost (optL x r) W)) := fun W hW => implOpt_any x r Ay1 cy1 Ay2 cy2 Ay3 cy3 _ _ _ _ _ W HSZ.out (Hy.out.kept hW).weak (Hy3.out.kept hW).weak (feat_below HFT.out (HB.out.trans (hW.mono HB.out.size)))
  have bHA0 := HA.out.cell 0 rfl
  have bHA1 := HA.out.cell 1 rfl
  have bHA2 := HA.out.cell 2 rfl
  have bHA3 := HA.out.cell 3 rfl
  go_wp2_with fail
  refine (HC.out _ (by first | exact Below.refl _ _ | exact (Below.refl _ _).alloc (Nat.le_refl _) _ | exact (Below.refl _ _).drew)).mono ?_
  rintro e w19 ⟨g2, rfl, hq, hb⟩
  clear bHA0 bHA1 bHA2 bHA3
  have hbn : Below w18.heap.size w18 w19 := below_step (by first | exact Below.refl _ _ | exact (Below.refl _ _).alloc (Nat.le_refl _) _ | exact (Below.refl _ _).drew) hb
  have hs19 : Hid (w18.heap.size ≤ w19.heap.size) := hbn.size
  replace HV := Lib.hid (HV.out.kept hbn)
  replace HVr := Lib.hid (HVr.out.kept hbn)
  replace HA := Lib.hid (HA.out.kept hbn)
  replace Hg0 := Lib.hid (Hg0.out.kept hbn)
  replace Hx1 := Lib.hid (Hx1.out.kept hbn)
  replace Hg1 := Lib.hid (Hg1.out.kept hbn)
  replace Hy := Lib.hid (Hy.out.kept hbn)
  replace Hy3 := Lib.hid (Hy3.out.kept hbn)
  replace HB := Lib.hid (HB.out.trans (hbn.mono HB.out.size))
  have Hg2 := Lib.hid (hq.tight.mono (G := fun a => w18.heap.size ≤ a.block ∧ a.block < w19.heap.size) (fun a ha => ⟨Nat.le_trans (Below.size (B := w18.heap.size) (w := w18) (by first | exact Below.refl _ _ | exact (Below.refl _ _).alloc (Nat.le_refl _) _ | exact (Below.refl _ _).drew)) ha.1, ha.2⟩))
  clear hb hbn HC hq
  clear Hy
  clear Hy3
  have HC : Hid (∀ W, Below w19.heap.size w19 W → Calls Tryz.prog 24 #[g2, g0] W fun e w' => e = .returned (.bool true) ∧ Below W.heap.size W w') := fun W hW => eqStrs_any _ _ (optL x r) _ _ W (Hg2.out.kept hW).weak (Hg0.out.kept hW).weak
  have bHA0 := HA.out.cell 0 rfl
  have bHA1 := HA.out.cell 1 rfl
  have bHA2 := HA.out.cell 2 rfl
  have bHA3 := HA.out.cell 3 rfl
  go_wp2_with fail
  refine (HC.out _ (by first | exact Below.refl _ _ | exact (Below.refl _ _).alloc (Nat.le_refl _) _ | exact (Below.refl _ _).drew)).mono ?_
  rintro e w20 ⟨rfl, hb⟩
  clear bHA0 bHA1 bHA2 bHA3
  have hbn : Below w19.heap.size w19 w20 := below_step (by first | exact Below.refl _ _ | exact (Below.refl _ _).alloc (Nat.le_refl _) _ | exact (Below.refl _ _).drew) hb
  have hs20 : Hid (w19.heap.size ≤ w20.heap.size) := hbn.size
  replace HV := Lib.hid (HV.out.kept hbn)
  replace HVr := Lib.hid (HVr.out.kept hbn)
  replace HA := Lib.hid (HA.out.kept hbn)
  replace Hg0 := Lib.hid (Hg0.out.kept hbn)
  replace Hx1 := Lib.hid (Hx1.out.kept hbn)
  replace Hg1 := Lib.hid (Hg1.out.kept hbn)
  replace Hg2 := Lib.hid (Hg2.out.kept hbn)
  replace HB := Lib.hid (HB.out.trans (hbn.mono HB.out.size))
  clear hb hbn HC
  have HC : Hid (∀ W, Below w20.heap.size w20 W → Calls Tryz.prog 26 #[g1, .int .i64 1] W fun e w' => e = .returned (.int .i64 ((cg : Nat) : Int)) ∧ Below W.heap.size W w') := fun W hW => by have := heldStrs_any g1 (optL x r) 1 1 rfl _ W HCG.out (Nat.le_refl 1) (Hg1.out.kept hW).weak; rw [hcg] at this; exact this
  have bHA0 := HA.out.cell 0 rfl
  have bHA1 := HA.out.cell 1 rfl
  have bHA2 := HA.out.cell 2 rfl
  have bHA3 := HA.out.cell 3 rfl
  go_wp2_with fail
  refine (HC.out _ (by first | exact Below.refl _ _ | exact (Below.refl _ _).alloc (Nat.le_refl _) _ | exact (Below.refl _ _).drew)).mono ?_
  rintro e w21 ⟨rfl, hb⟩
  clear bHA0 bHA1 bHA2 bHA3
  have hbn : Below w20.heap.size w20 w21 := below_step (by first | exact Below.refl _ _ | exact (Below.refl _ _).alloc (Nat.le_refl _) _ | exact (Below.refl _ _).drew) hb
  have hs21 : Hid (w20.heap.size ≤ w21.heap.size) := hbn.size
  replace HV := Lib.hid (HV.out.kept hbn)
  replace HVr := Lib.hid (HVr.out.kept hbn)
  replace HA := Lib.hid (HA.out.kept hbn)
  replace Hg0 := Lib.hid (Hg0.out.kept hbn)
  replace Hx1 := Lib.hid (Hx1.out.kept hbn)
  replace Hg1 := Lib.hid (Hg1.out.kept hbn)
  replace Hg2 := Lib.hid (Hg2.out.kept hbn)
  replace HB := Lib.hid (HB.out.trans (hbn.mono HB.out.size))
  clear hb hbn HC
  go_wp2
  go_ret
  exact ⟨rfl, HB.out⟩
end Go.Proofs.YtkaihnlknncfdaaGreatDoor.fnExactOptimalOutputs
