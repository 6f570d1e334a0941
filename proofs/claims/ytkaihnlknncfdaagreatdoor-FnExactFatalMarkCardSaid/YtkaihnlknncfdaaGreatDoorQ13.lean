/- Merged: TmLinkS TmCandidateS TmIntS TmIntSS TmTableau Tc11 ThIntS WinnersOfWalk Fm12. -/
import Derived.Test.YtkaihnlknncfdaaGreatDoorQ1
import Derived.Test.YtkaihnlknncfdaaGreatDoorQ2
import Derived.WalkKit
import Derived.BigQuiet
import Derived.Lib.QuietBelow
import Derived.Test.YtkaihnlknncfdaaGreatDoorRows
import Derived.Test.YtkaihnlknncfdaaGreatDoorQ12
import Derived.Test.YtkaihnlknncfdaaGreatDoorQ9
import Derived.Test.YtkaihnlknncfdaaGreatDoorQ10
import Derived.Test.YtkaihnlknncfdaaGreatDoorQ11
import Derived.Deep.RegionWith
import Derived.Deep.DeepCutAuto
import Derived.Test.YtkaihnlknncfdaaGreatDoorQ5
/- The laws' markLinkS. -/
namespace Go.Proofs.YtkaihnlknncfdaaGreatDoor
set_option maxRecDepth 100000
open Go.RowKit Go.Sort
set_option linter.unusedVariables false
set_option linter.unusedSimpArgs false

set_option maxHeartbeats 2000000 in
theorem markLinkS_any (v : Value) (l : List DLink) (z : Int) (k0 : Nat) (hz : z = (k0 : Int)) (base : Nat) (F0 : Addr → Prop) (w : World) (hF0 : ∀ a, F0 a → base ≤ a.block) (hk : k0 + cntRow rLink l ≤ 1000000000) (h1k : 1 ≤ k0) (hv0 : RowRd rLink true w v l F0) :
    Calls Tryz.prog 84 #[v, .int .i64 z] w fun e w' => e = .returned (.int .i64 ((k0 + cntRow rLink l : Nat) : Int)) ∧ RowRd rLink true w' v (labRow rLink k0 l) F0 ∧ Unch F0 w w' ∧ Below base w w' := by
  subst hz
  have hv := hv0.tight
  have HG : Hid (∀ a, (F0 a ∧ a.block < w.heap.size) → F0 a) := fun _ h => h.1
  have HFS : Hid (∀ a, (F0 a ∧ a.block < w.heap.size) → a.block < w.heap.size) := fun _ h => h.2
  have HFB : Hid (∀ a, (F0 a ∧ a.block < w.heap.size) → base ≤ a.block) := fun a h => hF0 a h.1
  generalize hF : (fun a => F0 a ∧ a.block < w.heap.size) = F at hv
  have HG : Hid (∀ a, F a → F0 a) := by subst hF; exact HG
  have HFS : Hid (∀ a, F a → a.block < w.heap.size) := by subst hF; exact HFS
  have HFB : Hid (∀ a, F a → base ≤ a.block) := by subst hF; exact HFB
  clear hF hF0
  have hmx := hv.max
  have HMX := Lib.hid hmx
  obtain ⟨A, cap, rfl⟩ := hv.form
  have HV := Lib.hid hv
  clear hv hv0
  have HX : Hid (∀ k, k < l.length → ∃ x, l[k]? = some x) := fun k hk => ⟨_, List.getElem?_eq_getElem hk⟩
  have HEND : Hid (labTo rLink k0 l l.length = labRow rLink k0 l ∧ cntTo rLink l l.length = cntRow rLink l) := ⟨labTo_all _ _ _, cntTo_all _ _⟩
  have HLE := Lib.hid (cntTo_le rLink l)
  have H0 := Lib.hid (labTo_zero rLink k0 l)
  have H00 : Hid (cntTo rLink l 0 = 0) := rfl
  generalize hll : l.length = n at *
  clear hll
  generalize cntRow rLink l = cr at *
  go_enter Tryz.func84, Tryz.ntmps84
  go_wp2
  go_loopw [1, 5] (fun q i wr => ∃ (k : Nat), k ≤ n ∧ i = .int .i64 k ∧ q = .int .i64 ((k0 + cntTo rLink l k : Nat) : Int) ∧ RowRd rLink true wr (.slice A n cap) (labTo rLink k0 l k) F ∧ Unch F w wr ∧ Below base w wr) (fun _ i _ => n - (intOf i).toNat)
  case atStart => exact ⟨0, by omega, rfl, by rw [H00.out]; rfl, by rw [H0.out]; exact HV.out, Unch.refl _ _, Below.refl _ _⟩
  case round =>
    obtain ⟨k, hk, rfl, rfl, hrow, hun, hbe⟩ := hrel
    have HUN := Lib.hid hun
    have HBE := Lib.hid hbe
    clear hun hbe
    by_cases hkl : k < n
    · obtain ⟨x, hx⟩ := HX.out k hkl
      have hcs := cntTo_step rLink l k hx
      have hle := HLE.out (k + 1)
      have HLS := Lib.hid (labTo_step rLink k0 l k hx)
      obtain ⟨g, off, xs, Fk, rfl, hrd, hel, hFk, hcl, hput⟩ := hrow.open (labTo_at rLink k0 l k hx)
      rw [show rLink.size = 2 from rfl] at hel hcl hput
      rw [rLink_cnt] at hcs
      have HCL := Lib.hid hcl
      have HFK := Lib.hid hFk
      have HPUT := Lib.hid hput
      have HCS := Lib.hid hcs
      have hcb0 : k0 + cntTo rLink l k + (1 + (1)) ≤ 1000000000 := by omega
      clear hrow hcl hFk hput hcs
      generalize hc : k0 + cntTo rLink l k = c at *
      have hcb : c + 1 ≤ 1000000001 := by omega
      have HC := Lib.hid hc
      clear hc
      have eehrd := rLink_rd hrd
      subst eehrd
      clear hrd
      have c0 := hel.cell 0 rfl
      have f0 := hel.free 0 (by decide)
      have hs0 := hel.set 0 (by decide) (.int .u8 ((((c : Nat) : Int)) % 256))
      simp only [Nat.add_zero] at c0 f0 hs0
      simp only [List.set] at hs0
      have c1 := hs0.cell 1 rfl
      have f1 := hs0.free 1 (by decide)
      have hs1 := hs0.set 1 (by decide) (.int .u8 ((((c : Nat) : Int) + 1) % 256))
      simp only [List.set] at hs1
      have HUE := Lib.hid ((HUN.out.trans (Unch.set (p := ⟨g, off + k * 2, none⟩) (HCL.out 0 (by decide)).1 (.int .u8 ((((c : Nat) : Int)) % 256)))).trans (Unch.set (p := ⟨g, off + k * 2 + 1, none⟩) (HCL.out 1 (by decide)).1 (.int .u8 ((((c : Nat) : Int) + 1) % 256))))
      have HBB := Lib.hid ((HBE.out.setCell (p := ⟨g, off + k * 2, none⟩) (HFB.out _ (HCL.out 0 (by decide)).1) (.int .u8 ((((c : Nat) : Int)) % 256))).setCell (p := ⟨g, off + k * 2 + 1, none⟩) (HFB.out _ (HCL.out 1 (by decide)).1) (.int .u8 ((((c : Nat) : Int) + 1) % 256)))
      have HEE := Lib.hid hs1
      clear hs0 hs1 hel
      go_wp2
      go_roundw
      case rel =>
        refine ⟨k + 1, by omega, by go_num, ?_, ?_, HUE.out, HBB.out⟩
        · have e1 := HCS.out
          have e2 := HC.out
          congr 1
          omega
        · rw [← HLS.out]
          exact (HPUT.out _ _ (rLink.lab c x) Fk HEE.out (rLink_mk (x := rLink.lab c x) ) (fun a h => Or.inl h)).mono (fun a h => h.elim id (HFK.out a))
      case measure => simp [intOf]; omega
    · obtain rfl : k = n := by omega
      rw [HEND.out.1] at hrow
      have HR := Lib.hid (hrow.mono HG.out)
      have HCN := Lib.hid HEND.out.2
      clear hrow
      go_wp2
      go_ret
      exact ⟨ret_i64 (by rw [HCN.out]), HR.out, HUN.out.mono HG.out, HBE.out⟩
end Go.Proofs.YtkaihnlknncfdaaGreatDoor

/- The laws' markCandidateS. -/
namespace Go.Proofs.YtkaihnlknncfdaaGreatDoor
set_option maxRecDepth 100000
open Go.RowKit Go.Sort
set_option linter.unusedVariables false
set_option linter.unusedSimpArgs false

set_option maxHeartbeats 2000000 in
theorem markCandidateS_any (v : Value) (l : List DCandidate) (z : Int) (k0 : Nat) (hz : z = (k0 : Int)) (base : Nat) (F0 : Addr → Prop) (w : World) (hF0 : ∀ a, F0 a → base ≤ a.block) (hk : k0 + cntRow rCandidate l ≤ 1000000000) (h1k : 1 ≤ k0) (hv0 : RowRd rCandidate true w v l F0) :
    Calls Tryz.prog 59 #[v, .int .i64 z] w fun e w' => e = .returned (.int .i64 ((k0 + cntRow rCandidate l : Nat) : Int)) ∧ RowRd rCandidate true w' v (labRow rCandidate k0 l) F0 ∧ Unch F0 w w' ∧ Below base w w' := by
  subst hz
  have hv := hv0.tight
  have HG : Hid (∀ a, (F0 a ∧ a.block < w.heap.size) → F0 a) := fun _ h => h.1
  have HFS : Hid (∀ a, (F0 a ∧ a.block < w.heap.size) → a.block < w.heap.size) := fun _ h => h.2
  have HFB : Hid (∀ a, (F0 a ∧ a.block < w.heap.size) → base ≤ a.block) := fun a h => hF0 a h.1
  generalize hF : (fun a => F0 a ∧ a.block < w.heap.size) = F at hv
  have HG : Hid (∀ a, F a → F0 a) := by subst hF; exact HG
  have HFS : Hid (∀ a, F a → a.block < w.heap.size) := by subst hF; exact HFS
  have HFB : Hid (∀ a, F a → base ≤ a.block) := by subst hF; exact HFB
  clear hF hF0
  have hmx := hv.max
  have HMX := Lib.hid hmx
  obtain ⟨A, cap, rfl⟩ := hv.form
  have HV := Lib.hid hv
  clear hv hv0
  have HX : Hid (∀ k, k < l.length → ∃ x, l[k]? = some x) := fun k hk => ⟨_, List.getElem?_eq_getElem hk⟩
  have HEND : Hid (labTo rCandidate k0 l l.length = labRow rCandidate k0 l ∧ cntTo rCandidate l l.length = cntRow rCandidate l) := ⟨labTo_all _ _ _, cntTo_all _ _⟩
  have HLE := Lib.hid (cntTo_le rCandidate l)
  have H0 := Lib.hid (labTo_zero rCandidate k0 l)
  have H00 : Hid (cntTo rCandidate l 0 = 0) := rfl
  generalize hll : l.length = n at *
  clear hll
  generalize cntRow rCandidate l = cr at *
  go_enter Tryz.func59, Tryz.ntmps59
  go_wp2
  go_loopw [1, 5] (fun q i wr => ∃ (k : Nat), k ≤ n ∧ i = .int .i64 k ∧ q = .int .i64 ((k0 + cntTo rCandidate l k : Nat) : Int) ∧ RowRd rCandidate true wr (.slice A n cap) (labTo rCandidate k0 l k) F ∧ Unch F w wr ∧ Below base w wr) (fun _ i _ => n - (intOf i).toNat)
  case atStart => exact ⟨0, by omega, rfl, by rw [H00.out]; rfl, by rw [H0.out]; exact HV.out, Unch.refl _ _, Below.refl _ _⟩
  case round =>
    obtain ⟨k, hk, rfl, rfl, hrow, hun, hbe⟩ := hrel
    have HUN := Lib.hid hun
    have HBE := Lib.hid hbe
    clear hun hbe
    by_cases hkl : k < n
    · obtain ⟨x, hx⟩ := HX.out k hkl
      have hcs := cntTo_step rCandidate l k hx
      have hle := HLE.out (k + 1)
      have HLS := Lib.hid (labTo_step rCandidate k0 l k hx)
      obtain ⟨g, off, xs, Fk, rfl, hrd, hel, hFk, hcl, hput⟩ := hrow.open (labTo_at rCandidate k0 l k hx)
      simp only [show rCandidate.size = 1 from rfl, Nat.mul_one] at hel hcl hput
      rw [rCandidate_cnt] at hcs
      have HCL := Lib.hid hcl
      have HFK := Lib.hid hFk
      have HPUT := Lib.hid hput
      have HCS := Lib.hid hcs
      have hcb0 : k0 + cntTo rCandidate l k + (cntRow rLink x.Links) ≤ 1000000000 := by omega
      clear hrow hcl hFk hput hcs
      generalize hc : k0 + cntTo rCandidate l k = c at *
      have hc1 : 1 ≤ c := by omega
      have hcb : c + 1 ≤ 1000000001 := by omega
      have HC := Lib.hid hc
      clear hc
      obtain ⟨v0, rfl, q0⟩ := rCandidate_rd hrd
      clear hrd
      obtain ⟨c0', hc0⟩ : ∃ q, c + 0 + cntRow rLink x.Links = q := ⟨_, rfl⟩
      have HM0 := Lib.hid (markLinkS_any v0 x.Links (((c : Nat) : Int)) (c + 0) (by omega) base Fk _ (fun a ha => HFB.out a (HFK.out a ha)) (by omega) (by omega) q0)
      rw [hc0] at HM0
      have c0 := hel.cell 0 rfl
      simp only [Nat.add_zero, Nat.mul_one] at c0
      have HEL0 := Lib.hid hel
      clear hel q0
      go_wp2_with fail
      refine HM0.out.mono ?_
      rintro e w0 ⟨rfl, qq0, hu0, hb0⟩
      have hm0 := HEL0.out.call hu0 (fun j hj => (HCL.out j hj).2) (fun a ha => Nat.lt_of_lt_of_le (HFS.out a ha) (Nat.le_trans HUN.out.size (by simp [World.setCell])))
      clear c0
      have HUE := Lib.hid (HUN.out.trans (hu0.mono HFK.out))
      have HBB := Lib.hid (HBE.out.trans hb0)
      have HEE := Lib.hid hm0
      have HQ0 := Lib.hid qq0
      clear hm0 hu0 hb0 qq0
      go_wp2
      go_roundw
      case rel =>
        subst hc0
        refine ⟨k + 1, by omega, by go_num, ?_, ?_, HUE.out, HBB.out⟩
        · have e1 := HCS.out
          have e2 := HC.out
          congr 1
          omega
        · rw [← HLS.out]
          exact (HPUT.out _ _ (rCandidate.lab c x) Fk HEE.out (rCandidate_mk (x := rCandidate.lab c x) HQ0.out) (fun a h => Or.inl h)).mono (fun a h => h.elim id (HFK.out a))
      case measure => simp [intOf]; omega
    · obtain rfl : k = n := by omega
      rw [HEND.out.1] at hrow
      have HR := Lib.hid (hrow.mono HG.out)
      have HCN := Lib.hid HEND.out.2
      clear hrow
      go_wp2
      go_ret
      exact ⟨ret_i64 (by rw [HCN.out]), HR.out, HUN.out.mono HG.out, HBE.out⟩
end Go.Proofs.YtkaihnlknncfdaaGreatDoor

/- The laws' markIntS. -/
namespace Go.Proofs.YtkaihnlknncfdaaGreatDoor
set_option maxRecDepth 100000
open Go.RowKit Go.Sort
set_option linter.unusedVariables false
set_option linter.unusedSimpArgs false

set_option maxHeartbeats 2000000 in
theorem markIntS_any (v : Value) (l : List Int) (z : Int) (k0 : Nat) (hz : z = (k0 : Int)) (base : Nat) (F0 : Addr → Prop) (w : World) (hF0 : ∀ a, F0 a → base ≤ a.block) (hk : k0 + cntRow Rep.int l ≤ 1000000000) (h1k : 1 ≤ k0) (hv0 : RowRd Rep.int true w v l F0) :
    Calls Tryz.prog 20 #[v, .int .i64 z] w fun e w' => e = .returned (.int .i64 ((k0 + cntRow Rep.int l : Nat) : Int)) ∧ RowRd Rep.int true w' v (labRow Rep.int k0 l) F0 ∧ Unch F0 w w' ∧ Below base w w' := by
  subst hz
  have hv := hv0.tight
  have HG : Hid (∀ a, (F0 a ∧ a.block < w.heap.size) → F0 a) := fun _ h => h.1
  have HFS : Hid (∀ a, (F0 a ∧ a.block < w.heap.size) → a.block < w.heap.size) := fun _ h => h.2
  have HFB : Hid (∀ a, (F0 a ∧ a.block < w.heap.size) → base ≤ a.block) := fun a h => hF0 a h.1
  generalize hF : (fun a => F0 a ∧ a.block < w.heap.size) = F at hv
  have HG : Hid (∀ a, F a → F0 a) := by subst hF; exact HG
  have HFS : Hid (∀ a, F a → a.block < w.heap.size) := by subst hF; exact HFS
  have HFB : Hid (∀ a, F a → base ≤ a.block) := by subst hF; exact HFB
  clear hF hF0
  have hmx := hv.max
  have HMX := Lib.hid hmx
  obtain ⟨A, cap, rfl⟩ := hv.form
  have HV := Lib.hid hv
  clear hv hv0
  have HX : Hid (∀ k, k < l.length → ∃ x, l[k]? = some x) := fun k hk => ⟨_, List.getElem?_eq_getElem hk⟩
  have HEND : Hid (labTo Rep.int k0 l l.length = labRow Rep.int k0 l ∧ cntTo Rep.int l l.length = cntRow Rep.int l) := ⟨labTo_all _ _ _, cntTo_all _ _⟩
  have HLE := Lib.hid (cntTo_le Rep.int l)
  have H0 := Lib.hid (labTo_zero Rep.int k0 l)
  have H00 : Hid (cntTo Rep.int l 0 = 0) := rfl
  generalize hll : l.length = n at *
  clear hll
  generalize cntRow Rep.int l = cr at *
  go_enter Tryz.func20, Tryz.ntmps20
  go_wp2
  go_loopw [1, 5] (fun q i wr => ∃ (k : Nat), k ≤ n ∧ i = .int .i64 k ∧ q = .int .i64 ((k0 + cntTo Rep.int l k : Nat) : Int) ∧ RowRd Rep.int true wr (.slice A n cap) (labTo Rep.int k0 l k) F ∧ Unch F w wr ∧ Below base w wr) (fun _ i _ => n - (intOf i).toNat)
  case atStart => exact ⟨0, by omega, rfl, by rw [H00.out]; rfl, by rw [H0.out]; exact HV.out, Unch.refl _ _, Below.refl _ _⟩
  case round =>
    obtain ⟨k, hk, rfl, rfl, hrow, hun, hbe⟩ := hrel
    have HUN := Lib.hid hun
    have HBE := Lib.hid hbe
    clear hun hbe
    by_cases hkl : k < n
    · obtain ⟨x, hx⟩ := HX.out k hkl
      have hcs := cntTo_step Rep.int l k hx
      have hle := HLE.out (k + 1)
      have HLS := Lib.hid (labTo_step Rep.int k0 l k hx)
      obtain ⟨g, off, xs, Fk, rfl, hrd, hel, hFk, hcl, hput⟩ := hrow.open (labTo_at Rep.int k0 l k hx)
      simp only [show Rep.int.size = 1 from rfl, Nat.mul_one] at hel hcl hput
      rw [show Rep.int.cnt x = 1 from rfl] at hcs
      have HCL := Lib.hid hcl
      have HFK := Lib.hid hFk
      have HPUT := Lib.hid hput
      have HCS := Lib.hid hcs
      have hcb0 : k0 + cntTo Rep.int l k + (1) ≤ 1000000000 := by omega
      clear hrow hcl hFk hput hcs
      generalize hc : k0 + cntTo Rep.int l k = c at *
      have hcb : c + 1 ≤ 1000000001 := by omega
      have HC := Lib.hid hc
      clear hc
      obtain ⟨rfl, _⟩ := id hrd
      clear hrd
      have c0 := hel.cell 0 rfl
      have f0 := hel.free 0 (by decide)
      have hs0 := hel.set 0 (by decide) (.int .i64 (((c : Nat) : Int)))
      simp only [Nat.add_zero] at c0 f0 hs0
      simp only [List.set] at hs0
      have HUE := Lib.hid (HUN.out.trans (Unch.set (p := ⟨g, off + k, none⟩) (HCL.out 0 (by decide)).1 (.int .i64 (((c : Nat) : Int)))))
      have HBB := Lib.hid (HBE.out.setCell (p := ⟨g, off + k, none⟩) (HFB.out _ (HCL.out 0 (by decide)).1) (.int .i64 (((c : Nat) : Int))))
      have HEE := Lib.hid hs0
      clear hs0 hel
      go_wp2
      go_roundw
      case rel =>
        refine ⟨k + 1, by omega, by go_num, ?_, ?_, HUE.out, HBB.out⟩
        · have e1 := HCS.out
          have e2 := HC.out
          congr 1
          omega
        · rw [← HLS.out]
          exact (HPUT.out _ _ (Rep.int.lab c x) Fk HEE.out ⟨rfl, (by unfold I64; simp only [Rep.int]; omega)⟩ (fun a h => Or.inl h)).mono (fun a h => h.elim id (HFK.out a))
      case measure => simp [intOf]; omega
    · obtain rfl : k = n := by omega
      rw [HEND.out.1] at hrow
      have HR := Lib.hid (hrow.mono HG.out)
      have HCN := Lib.hid HEND.out.2
      clear hrow
      go_wp2
      go_ret
      exact ⟨ret_i64 (by rw [HCN.out]), HR.out, HUN.out.mono HG.out, HBE.out⟩
end Go.Proofs.YtkaihnlknncfdaaGreatDoor

/- The laws' markIntSS. -/
namespace Go.Proofs.YtkaihnlknncfdaaGreatDoor
set_option maxRecDepth 100000
open Go.RowKit Go.Sort
set_option linter.unusedVariables false
set_option linter.unusedSimpArgs false

set_option maxHeartbeats 2000000 in
theorem markIntSS_any (v : Value) (l : List (List Int)) (z : Int) (k0 : Nat) (hz : z = (k0 : Int)) (base : Nat) (F0 : Addr → Prop) (w : World) (hF0 : ∀ a, F0 a → base ≤ a.block) (hk : k0 + cntRow (Rep.row Rep.int) l ≤ 1000000000) (h1k : 1 ≤ k0) (hv0 : RowRd (Rep.row Rep.int) true w v l F0) :
    Calls Tryz.prog 60 #[v, .int .i64 z] w fun e w' => e = .returned (.int .i64 ((k0 + cntRow (Rep.row Rep.int) l : Nat) : Int)) ∧ RowRd (Rep.row Rep.int) true w' v (labRow (Rep.row Rep.int) k0 l) F0 ∧ Unch F0 w w' ∧ Below base w w' := by
  subst hz
  have hv := hv0.tight
  have HG : Hid (∀ a, (F0 a ∧ a.block < w.heap.size) → F0 a) := fun _ h => h.1
  have HFS : Hid (∀ a, (F0 a ∧ a.block < w.heap.size) → a.block < w.heap.size) := fun _ h => h.2
  have HFB : Hid (∀ a, (F0 a ∧ a.block < w.heap.size) → base ≤ a.block) := fun a h => hF0 a h.1
  generalize hF : (fun a => F0 a ∧ a.block < w.heap.size) = F at hv
  have HG : Hid (∀ a, F a → F0 a) := by subst hF; exact HG
  have HFS : Hid (∀ a, F a → a.block < w.heap.size) := by subst hF; exact HFS
  have HFB : Hid (∀ a, F a → base ≤ a.block) := by subst hF; exact HFB
  clear hF hF0
  have hmx := hv.max
  have HMX := Lib.hid hmx
  obtain ⟨A, cap, rfl⟩ := hv.form
  have HV := Lib.hid hv
  clear hv hv0
  have HX : Hid (∀ k, k < l.length → ∃ x, l[k]? = some x) := fun k hk => ⟨_, List.getElem?_eq_getElem hk⟩
  have HEND : Hid (labTo (Rep.row Rep.int) k0 l l.length = labRow (Rep.row Rep.int) k0 l ∧ cntTo (Rep.row Rep.int) l l.length = cntRow (Rep.row Rep.int) l) := ⟨labTo_all _ _ _, cntTo_all _ _⟩
  have HLE := Lib.hid (cntTo_le (Rep.row Rep.int) l)
  have H0 := Lib.hid (labTo_zero (Rep.row Rep.int) k0 l)
  have H00 : Hid (cntTo (Rep.row Rep.int) l 0 = 0) := rfl
  generalize hll : l.length = n at *
  clear hll
  generalize cntRow (Rep.row Rep.int) l = cr at *
  go_enter Tryz.func60, Tryz.ntmps60
  go_wp2
  go_loopw [1, 5] (fun q i wr => ∃ (k : Nat), k ≤ n ∧ i = .int .i64 k ∧ q = .int .i64 ((k0 + cntTo (Rep.row Rep.int) l k : Nat) : Int) ∧ RowRd (Rep.row Rep.int) true wr (.slice A n cap) (labTo (Rep.row Rep.int) k0 l k) F ∧ Unch F w wr ∧ Below base w wr) (fun _ i _ => n - (intOf i).toNat)
  case atStart => exact ⟨0, by omega, rfl, by rw [H00.out]; rfl, by rw [H0.out]; exact HV.out, Unch.refl _ _, Below.refl _ _⟩
  case round =>
    obtain ⟨k, hk, rfl, rfl, hrow, hun, hbe⟩ := hrel
    have HUN := Lib.hid hun
    have HBE := Lib.hid hbe
    clear hun hbe
    by_cases hkl : k < n
    · obtain ⟨x, hx⟩ := HX.out k hkl
      have hcs := cntTo_step (Rep.row Rep.int) l k hx
      have hle := HLE.out (k + 1)
      have HLS := Lib.hid (labTo_step (Rep.row Rep.int) k0 l k hx)
      obtain ⟨g, off, xs, Fk, rfl, hrd, hel, hFk, hcl, hput⟩ := hrow.open (labTo_at (Rep.row Rep.int) k0 l k hx)
      simp only [show (Rep.row Rep.int).size = 1 from rfl, Nat.mul_one] at hel hcl hput
      rw [show (Rep.row Rep.int).cnt x = cntRow Rep.int x from rfl] at hcs
      have HCL := Lib.hid hcl
      have HFK := Lib.hid hFk
      have HPUT := Lib.hid hput
      have HCS := Lib.hid hcs
      have hcb0 : k0 + cntTo (Rep.row Rep.int) l k + (cntRow Rep.int x) ≤ 1000000000 := by omega
      clear hrow hcl hFk hput hcs
      generalize hc : k0 + cntTo (Rep.row Rep.int) l k = c at *
      have hc1 : 1 ≤ c := by omega
      have hcb : c + 1 ≤ 1000000001 := by omega
      have HC := Lib.hid hc
      clear hc
      obtain ⟨v0, rfl, q0⟩ := id hrd
      clear hrd
      obtain ⟨c0', hc0⟩ : ∃ q, c + 0 + cntRow Rep.int x = q := ⟨_, rfl⟩
      have HM0 := Lib.hid (markIntS_any v0 x (((c : Nat) : Int)) (c + 0) (by omega) base Fk _ (fun a ha => HFB.out a (HFK.out a ha)) (by omega) (by omega) q0)
      rw [hc0] at HM0
      have c0 := hel.cell 0 rfl
      simp only [Nat.add_zero, Nat.mul_one] at c0
      have HEL0 := Lib.hid hel
      clear hel q0
      go_wp2_with fail
      refine HM0.out.mono ?_
      rintro e w0 ⟨rfl, qq0, hu0, hb0⟩
      have hm0 := HEL0.out.call hu0 (fun j hj => (HCL.out j hj).2) (fun a ha => Nat.lt_of_lt_of_le (HFS.out a ha) (Nat.le_trans HUN.out.size (by simp [World.setCell])))
      clear c0
      have HUE := Lib.hid (HUN.out.trans (hu0.mono HFK.out))
      have HBB := Lib.hid (HBE.out.trans hb0)
      have HEE := Lib.hid hm0
      have HQ0 := Lib.hid qq0
      clear hm0 hu0 hb0 qq0
      go_wp2
      go_roundw
      case rel =>
        subst hc0
        refine ⟨k + 1, by omega, by go_num, ?_, ?_, HUE.out, HBB.out⟩
        · have e1 := HCS.out
          have e2 := HC.out
          congr 1
          omega
        · rw [← HLS.out]
          exact (HPUT.out _ _ ((Rep.row Rep.int).lab c x) Fk HEE.out ⟨v0, rfl, HQ0.out⟩ (fun a h => Or.inl h)).mono (fun a h => h.elim id (HFK.out a))
      case measure => simp [intOf]; omega
    · obtain rfl : k = n := by omega
      rw [HEND.out.1] at hrow
      have HR := Lib.hid (hrow.mono HG.out)
      have HCN := Lib.hid HEND.out.2
      clear hrow
      go_wp2
      go_ret
      exact ⟨ret_i64 (by rw [HCN.out]), HR.out, HUN.out.mono HG.out, HBE.out⟩
end Go.Proofs.YtkaihnlknncfdaaGreatDoor

/- The laws' markTableau. -/
namespace Go.Proofs.YtkaihnlknncfdaaGreatDoor
set_option maxRecDepth 100000
open Go.RowKit Go.Sort M
set_option linter.unusedVariables false
set_option linter.unusedSimpArgs false

set_option maxHeartbeats 2000000 in
theorem markTableau_any (x : DTableau) (v1 v2 v3 : Value) (z : Int) (k0 : Nat) (hz : z = (k0 : Int)) (base : Nat) (F1 F2 F3 : Addr → Prop) (w : World) (hbs : base ≤ w.heap.size) (hF : ∀ a, F1 a ∨ F2 a ∨ F3 a → base ≤ a.block) (hk : k0 + cntTab x ≤ 1000000000) (h1k : 1 ≤ k0) (hv : TabRd true w v1 v2 v3 x F1 F2 F3) :
    Calls Tryz.prog 19 #[.agg #[.string x.Input, v1, v2, v3], .int .i64 z] w fun e w' => e = .returned (.int .i64 ((k0 + cntTab x : Nat) : Int)) ∧ TabRd true w' v1 v2 v3 (labTab k0 x) F1 F2 F3 ∧ Unch (fun a => F1 a ∨ F2 a ∨ F3 a) w w' ∧ Below base w w' := by
  subst hz
  unfold cntTab at hk
  have HBX : Hid (Below w.heap.size w (w.alloc (.cells #[.string x.Input, v1, v2, v3] 32))) := (Below.refl _ _).alloc (Nat.le_refl _) _
  have HA0 : Hid (InC (w.alloc (.cells #[.string x.Input, v1, v2, v3] 32)) w.heap.size #[.string x.Input, v1, v2, v3] 32) := heap_alloc_new _ _
  have HV := Lib.hid hv.tight
  have HFB := Lib.hid hF
  have HI := Lib.hid hv.inp
  have HP : Hid (∀ w', TabRd true w' v1 v2 v3 (labTab k0 x) (fun a => F1 a ∧ a.block < w.heap.size) (fun a => F2 a ∧ a.block < w.heap.size) (fun a => F3 a ∧ a.block < w.heap.size) → TabRd true w' v1 v2 v3 (labTab k0 x) F1 F2 F3) := fun w' h => ⟨h.inp, h.names.mono fun _ h => h.1, h.rows.mono fun _ h => h.1, h.marks.mono fun _ h => h.1, hv.d12, hv.d13, hv.d23⟩
  clear hv hF
  generalize hG1 : (fun a : Addr => F1 a ∧ a.block < w.heap.size) = G1 at *
  generalize hG2 : (fun a : Addr => F2 a ∧ a.block < w.heap.size) = G2 at *
  generalize hG3 : (fun a : Addr => F3 a ∧ a.block < w.heap.size) = G3 at *
  have HS : Hid (∀ a, G1 a ∨ G2 a ∨ G3 a → (F1 a ∨ F2 a ∨ F3 a) ∧ a.block < w.heap.size ∧ base ≤ a.block) := by
    subst hG1; subst hG2; subst hG3
    intro a ha
    rcases ha with ha | ha | ha
    · exact ⟨.inl ha.1, ha.2, HFB.out a (.inl ha.1)⟩
    · exact ⟨.inr (.inl ha.1), ha.2, HFB.out a (.inr (.inl ha.1))⟩
    · exact ⟨.inr (.inr ha.1), ha.2, HFB.out a (.inr (.inr ha.1))⟩
  clear hG1 hG2 hG3 HFB
  obtain ⟨c1, hc1⟩ : ∃ c, k0 + cntRow (Rep.str mkT) x.Names = c := ⟨_, rfl⟩
  obtain ⟨c2, hc2⟩ : ∃ c, c1 + cntRow rCandidate x.Rows = c := ⟨_, rfl⟩
  obtain ⟨c3, hc3⟩ : ∃ c, c2 + cntRow (Rep.row Rep.int) x.Marks = c := ⟨_, rfl⟩
  have HE : Hid (k0 + cntTab x = c3) := by unfold Hid cntTab; omega
  have HLT : Hid (labTab k0 x = ⟨x.Input, labRow (Rep.str mkT) k0 x.Names, labRow rCandidate c1 x.Rows, labRow (Rep.row Rep.int) c2 x.Marks⟩) := by unfold Hid labTab; rw [hc1, hc2]
  have HM1 : Hid (∀ W, Below w.heap.size w W → Calls Tryz.prog 25 #[v1, .int .i64 (k0 : Int)] W fun e w' => e = .returned (.int .i64 ((c1 : Nat) : Int)) ∧ RowRd (Rep.str mkT) true w' v1 (labRow (Rep.str mkT) k0 x.Names) G1 ∧ Unch G1 W w' ∧ Below base W w') := fun W hW => by
    have := markStrs_any v1 x.Names _ k0 rfl base G1 W (fun a ha => (HS.out a (.inl ha)).2.2) (by omega) h1k (Nat.le_trans hbs hW.size) (HV.out.names.kept hW)
    rw [hc1] at this
    exact this
  have HM2 : Hid (∀ W, RowRd rCandidate true W v2 x.Rows G2 → Calls Tryz.prog 59 #[v2, .int .i64 (c1 : Int)] W fun e w' => e = .returned (.int .i64 ((c2 : Nat) : Int)) ∧ RowRd rCandidate true w' v2 (labRow rCandidate c1 x.Rows) G2 ∧ Unch G2 W w' ∧ Below base W w') := fun W hW => by
    have := markCandidateS_any v2 x.Rows _ c1 rfl base G2 W (fun a ha => (HS.out a (.inr (.inl ha))).2.2) (by omega) (by omega) hW
    rw [hc2] at this
    exact this
  have HM3 : Hid (∀ W, RowRd (Rep.row Rep.int) true W v3 x.Marks G3 → Calls Tryz.prog 60 #[v3, .int .i64 (c2 : Int)] W fun e w' => e = .returned (.int .i64 ((c3 : Nat) : Int)) ∧ RowRd (Rep.row Rep.int) true w' v3 (labRow (Rep.row Rep.int) c2 x.Marks) G3 ∧ Unch G3 W w' ∧ Below base W w') := fun W hW => by
    have := markIntSS_any v3 x.Marks _ c2 rfl base G3 W (fun a ha => (HS.out a (.inr (.inr ha))).2.2) (by omega) (by omega) hW
    rw [hc3] at this
    exact this
  have HAP : Hid (∀ (W W' : World) (G : Addr → Prop), Unch G W W' → w.heap.size < W.heap.size → (∀ a, G a → a.block < w.heap.size) → InC W w.heap.size #[.string x.Input, v1, v2, v3] 32 → InC W' w.heap.size #[.string x.Input, v1, v2, v3] 32 ∨ True) := fun _ _ _ _ _ _ _ => Or.inr trivial
  clear hc1 hc2 hc3 hk HAP
  rw [HE.out, HLT.out]
  rw [HLT.out] at HP
  generalize hll0 : labRow (Rep.str mkT) k0 x.Names = L1 at *
  generalize hll1 : labRow rCandidate c1 x.Rows = L2 at *
  generalize hll2 : labRow (Rep.row Rep.int) c2 x.Marks = L3 at *
  clear hll0 hll1 hll2 HLT HE
  have HX0 := Lib.hid HV.out
  go_enter Tryz.func19, Tryz.ntmps19
  go_wp2_with fail
  refine (HM1.out _ HBX.out).mono ?_
  rintro e w1 ⟨rfl, hq1, hu1, hb1⟩
  have hsz0 : (w.alloc (.cells #[.string x.Input, v1, v2, v3] 32)).heap.size = w.heap.size + 1 := by simp
  have HU1 := Lib.hid hu1
  have c2' : w1.cell? ⟨w.heap.size, 2, none⟩ = some v2 := ((hu1.same ⟨w.heap.size, 2, none⟩ (by rw [hsz0]; exact Nat.lt_succ_self _) (fun h => by have := (HS.out _ (.inl h)).2.1; simp at this)).1).trans (HA0.out.cell 2 rfl)
  have c3' : w1.cell? ⟨w.heap.size, 3, none⟩ = some v3 := ((hu1.same ⟨w.heap.size, 3, none⟩ (by rw [hsz0]; exact Nat.lt_succ_self _) (fun h => by have := (HS.out _ (.inl h)).2.1; simp at this)).1).trans (HA0.out.cell 3 rfl)
  have HC3 := Lib.hid c3'
  have hr2 : RowRd rCandidate true w1 v2 x.Rows G2 := (HV.out.rows.kept HBX.out).apart hu1 (fun a h2 h1 => HV.out.d12 rfl a h1 h2)
  have hr3 : RowRd (Rep.row Rep.int) true w1 v3 x.Marks G3 := (HV.out.marks.kept HBX.out).apart hu1 (fun a h3 h1 => HV.out.d13 rfl a h1 h3)
  have HR2 := Lib.hid hr2
  have HR3 := Lib.hid hr3
  have HQ1 := Lib.hid hq1
  have HB1 := Lib.hid (((Below.refl base w).alloc hbs _).trans hb1)
  have HU01 : Hid (Unch (fun a => F1 a ∨ F2 a ∨ F3 a) w w1) := (Unch.below HBX.out).trans (hu1.mono (fun a h => (HS.out a (.inl h)).1))
  have hs1 := hu1.size
  rw [hsz0] at hs1
  have HS1 := Lib.hid hs1
  clear hq1 hu1 hb1 hr2 hr3 c3' HU1 hs1
  go_wp2_with fail
  refine (HM2.out _ HR2.out).mono ?_
  rintro e w2 ⟨rfl, hq2, hu2, hb2⟩
  have c3' : w2.cell? ⟨w.heap.size, 3, none⟩ = some v3 := ((hu2.same ⟨w.heap.size, 3, none⟩ HS1.out (fun h => by have := (HS.out _ (.inr (.inl h))).2.1; simp at this)).1).trans HC3.out
  have hr3 : RowRd (Rep.row Rep.int) true w2 v3 x.Marks G3 := HR3.out.apart hu2 (fun a h3 h2 => HV.out.d23 rfl a h2 h3)
  have hq12 : RowRd (Rep.str mkT) true w2 v1 L1 G1 := HQ1.out.apart hu2 (fun a h1 h2 => HV.out.d12 rfl a h1 h2)
  have HR32 := Lib.hid hr3
  have HQ12 := Lib.hid hq12
  have HQ2 := Lib.hid hq2
  have HB2 := Lib.hid (HB1.out.trans hb2)
  have HU02 : Hid (Unch (fun a => F1 a ∨ F2 a ∨ F3 a) w w2) := HU01.out.trans (hu2.mono (fun a h => (HS.out a (.inr (.inl h))).1))
  clear hq2 hu2 hb2 hr3 hq12 c2'
  go_wp2_with fail
  refine (HM3.out _ HR32.out).mono ?_
  rintro e w3 ⟨rfl, hq3, hu3, hb3⟩
  have HQ3 := Lib.hid hq3
  have HQ13 := Lib.hid (HQ12.out.apart hu3 (fun a h1 h3 => HV.out.d13 rfl a h1 h3))
  have HQ23 := Lib.hid (HQ2.out.apart hu3 (fun a h2 h3 => HV.out.d23 rfl a h2 h3))
  have HB3 := Lib.hid (HB2.out.trans hb3)
  have HU03 : Hid (Unch (fun a => F1 a ∨ F2 a ∨ F3 a) w w3) := HU02.out.trans (hu3.mono (fun a h => (HS.out a (.inr (.inr h))).1))
  clear hq3 hu3 hb3 c3'
  go_wp2
  go_ret
  exact ⟨rfl, HP.out _ ⟨HI.out, HQ13.out, HQ23.out, HQ3.out, HV.out.d12, HV.out.d13, HV.out.d23⟩, HU03.out, HB3.out⟩
end Go.Proofs.YtkaihnlknncfdaaGreatDoor

/- How many marks a table takes. -/
namespace Go.Proofs.YtkaihnlknncfdaaGreatDoor
set_option maxRecDepth 100000
open Go.RowKit M
set_option linter.unusedVariables false
set_option linter.unusedSimpArgs false

theorem cntRow_le {α : Type} (E : Rep α) (c : Nat) (h : ∀ x, E.cnt x ≤ c * (E.sz x + 1)) : ∀ l : List α, cntRow E l ≤ c * szRow E l
  | [] => by simp [cntRow]
  | x :: l => by
    have ih := cntRow_le E c h l
    have h1 := h x
    have e1 : cntRow E (x :: l) = E.cnt x + cntRow E l := by simp [cntRow]
    have e2 : szRow E (x :: l) = (E.sz x + 1) + szRow E l := by simp [szRow]; omega
    rw [e1, e2, Nat.mul_add]
    omega
theorem cntTab_le {x : DTableau} (h : rTableau.sz x ≤ 1048576) : 1 + cntTab x ≤ 1000000000 := by
  rw [rTableau_sz] at h
  have h1 := cntRow_le (Rep.str mkT) 1 (fun y => by show 1 ≤ 1 * (y.size + 1); omega) x.Names
  have h2 := cntRow_le rCandidate 2 (fun y => by
    have h3 := cntRow_le rLink 2 (fun z => by show 1 + 1 ≤ 2 * (0 + 0 + 1); omega) y.Links
    rw [rCandidate_cnt, rCandidate_sz]
    omega) x.Rows
  have h4 := cntRow_le (Rep.row Rep.int) 1 (fun y => by
    have h5 := cntRow_le Rep.int 1 (fun z => by show 1 ≤ 1 * (0 + 1); omega) y
    show cntRow Rep.int y ≤ 1 * (szRow Rep.int y + 1)
    omega) x.Marks
  unfold cntTab
  omega
end Go.Proofs.YtkaihnlknncfdaaGreatDoor

/- The laws' heldIntS. -/
namespace Go.Proofs.YtkaihnlknncfdaaGreatDoor
set_option maxRecDepth 100000
open Go.RowKit Go.Sort
set_option linter.unusedVariables false
set_option linter.unusedSimpArgs false

set_option maxHeartbeats 1000000 in
theorem heldIntS_any (v : Value) (l : List Int) (z : Int) (k0 : Nat) (hz : z = (k0 : Int)) (F : Addr → Prop) (w : World) (hk : k0 + cntRow Rep.int l ≤ 1000000000) (h1k : 1 ≤ k0) (hv : RowRd Rep.int false w v (labRow Rep.int k0 l) F) :
    Calls Tryz.prog 21 #[v, .int .i64 z] w fun e w' => e = .returned (.int .i64 ((k0 + cntRow Rep.int l : Nat) : Int)) ∧ Below w.heap.size w w' := by
  subst hz
  have hmx := hv.max
  rw [labRow_len] at hmx
  obtain ⟨A, cap, rfl⟩ := hv.form
  rw [labRow_len]
  rw [labRow_len] at hv
  have HV := Lib.hid hv
  clear hv
  have HX : Hid (∀ k, k < l.length → ∃ x, l[k]? = some x) := fun k hk => ⟨_, List.getElem?_eq_getElem hk⟩
  have HEND : Hid (cntTo Rep.int l l.length = cntRow Rep.int l) := cntTo_all _ _
  have HLE := Lib.hid (cntTo_le Rep.int l)
  have H00 : Hid (cntTo Rep.int l 0 = 0) := rfl
  generalize hll : l.length = n at *
  clear hll
  generalize cntRow Rep.int l = cr at *
  go_enter Tryz.func21, Tryz.ntmps21
  go_wp2
  go_loopw [1, 5] (fun q i wr => ∃ (k : Nat), k ≤ n ∧ i = .int .i64 k ∧ q = .int .i64 ((k0 + cntTo Rep.int l k : Nat) : Int) ∧ Below w.heap.size w wr) (fun _ i _ => n - (intOf i).toNat)
  case atStart => exact ⟨0, by omega, rfl, by rw [H00.out]; rfl, Below.refl _ _⟩
  case round =>
    obtain ⟨k, hk, rfl, rfl, hbe⟩ := hrel
    have HBE := Lib.hid hbe
    clear hbe
    by_cases hkl : k < n
    · obtain ⟨x, hx⟩ := HX.out k hkl
      have hcs := cntTo_step Rep.int l k hx
      have hle := HLE.out (k + 1)
      obtain ⟨g, off, xs, Fk, rfl, _, hrd, _, hc⟩ := (HV.out.kept HBE.out).get (labRow_at Rep.int k0 l k hx)
      simp only [show Rep.int.size = 1 from rfl, Nat.mul_one] at hc
      rw [show Rep.int.cnt x = 1 from rfl] at hcs
      have HCS := Lib.hid hcs
      have hcb0 : k0 + cntTo Rep.int l k + (1) ≤ 1000000000 := by omega
      clear hcs
      generalize hcc : k0 + cntTo Rep.int l k = c at *
      have hcb : c + 1 ≤ 1000000001 := by omega
      have HC := Lib.hid hcc
      clear hcc
      obtain ⟨rfl, _⟩ := id hrd
      clear hrd hx
      have c0 : wr.cell? ⟨g, off + k, none⟩ = some (.int .i64 (((c : Nat) : Int))) := hc 0 _ rfl
      have HBB := Lib.hid HBE.out
      clear hc
      go_wp2
      go_roundw
      case rel =>
        refine ⟨k + 1, by omega, by go_num, ?_, HBB.out⟩
        have e1 := HCS.out
        have e2 := HC.out
        congr 1
        omega
      case measure => simp [intOf]; omega
    · obtain rfl : k = n := by omega
      have HCN := Lib.hid HEND.out
      go_wp2
      go_ret
      exact ⟨ret_i64 (by rw [HCN.out]), HBE.out⟩
end Go.Proofs.YtkaihnlknncfdaaGreatDoor

/- The walk of FnExactWinnersOf: it returns true at every argument. -/
namespace Go.Proofs.YtkaihnlknncfdaaGreatDoor.fnExactWinnersOf
set_option maxRecDepth 100000
open Go.RowKit Go.Proofs.YtkaihnlknncfdaaGreatDoor M
set_option linter.unusedVariables false
set_option linter.unusedSimpArgs false

theorem winW_len (x : DTableau) (r : List Int) : (winW x r).length ≤ x.Marks.length := by
  unfold winW
  split
  · exact winTo_len _ _ _
  · simp
theorem cntTab_le2 {x : DTableau} (h : rTableau.sz x ≤ 1048576) : 1 + cntTab x ≤ 990000000 := by
  rw [rTableau_sz] at h
  have h1 := cntRow_le (Rep.str mkT) 1 (fun y => by show 1 ≤ 1 * (y.size + 1); omega) x.Names
  have h2 := cntRow_le rCandidate 2 (fun y => by
    have h3 := cntRow_le rLink 2 (fun z => by show 1 + 1 ≤ 2 * (0 + 0 + 1); omega) y.Links
    rw [rCandidate_cnt, rCandidate_sz]
    omega) x.Rows
  have h4 := cntRow_le (Rep.row Rep.int) 1 (fun y => by
    have h5 := cntRow_le Rep.int 1 (fun z => by show 1 ≤ 1 * (0 + 1); omega) y
    show cntRow Rep.int y ≤ 1 * (szRow Rep.int y + 1)
    omega) x.Marks
  unfold cntTab
  omega
set_option maxHeartbeats 16000000 in
theorem walk (w : World) (hT : FeatTab w) (x : DTableau) (F1 F2 F3 : Addr → Prop) (v1 v2 v3 : Value) (hv : TabRd false w v1 v2 v3 x F1 F2 F3) (vr : Value) (r : List Int) (Fr : Addr → Prop) (hvr : RowRd Rep.int false w vr r Fr) :
    Calls Tryz.prog 3 #[.agg #[.string x.Input, v1, v2, v3], vr] w fun e w' => e = .returned (.bool true) ∧ Below w.heap.size w w' := by
  obtain ⟨A1, c1, rfl⟩ := hv.names.form
  obtain ⟨A2, c2, rfl⟩ := hv.rows.form
  obtain ⟨A3, c3, rfl⟩ := hv.marks.form
  have HV := Lib.hid hv.tight
  have HFT := Lib.hid hT
  clear hv hT
  have HB := Lib.hid (Below.refl w.heap.size w)
  obtain ⟨Ar, kr, rfl⟩ := hvr.form
  have HVr := Lib.hid (hvr.tight.mono (G := fun a => a.block < w.heap.size) (fun a ha => ha.2))
  have hmr := hvr.max
  clear hvr
  go_enter Tryz.func3, Tryz.ntmps3
  by_cases hlen : (1048576 : Int) < (r.length : Int)
  case pos =>
    go_wp2
    go_ret
    exact ⟨rfl, (Below.refl _ _).alloc (Nat.le_refl _) _⟩
  have HSZr : Hid (szRow Rep.int r ≤ 1048576) := by unfold Hid; rw [szRow_flat _ (fun _ => rfl)]; omega
  have HC : Hid (∀ W, Below w.heap.size w W → Calls Tryz.prog 12 #[.agg #[.string x.Input, .slice A1 x.Names.length c1, .slice A2 x.Rows.length c2, .slice A3 x.Marks.length c3], .int .i64 1048576] W fun e w' => (∃ z : Int, e = .returned (.int .i64 z) ∧ (z < 0 ∨ z + (rTableau.sz x : Nat) = 1048576 ∧ 0 ≤ z)) ∧ Below W.heap.size W w') := fun W hW => szTableau_any x _ _ _ 1048576 _ _ _ W (by omega) (by omega) (HV.out.kept hW)
  go_wp2_with fail
  refine (HC.out _ (by first | exact Below.refl _ _ | exact (Below.refl _ _).alloc (Nat.le_refl _) _ | exact (Below.refl _ _).drew)).mono ?_
  rintro e w1 ⟨⟨z, rfl, hz⟩, hb⟩
  have hbn : Below w.heap.size w w1 := below_step (by first | exact Below.refl _ _ | exact (Below.refl _ _).alloc (Nat.le_refl _) _ | exact (Below.refl _ _).drew) hb
  have hs1 : Hid (w.heap.size ≤ w1.heap.size) := hbn.size
  replace HV := Lib.hid (HV.out.kept hbn)
  replace HVr := Lib.hid (HVr.out.kept hbn)
  replace HB := Lib.hid (HB.out.trans (hbn.mono HB.out.size))
  have HA : Hid (InC w1 w.heap.size #[.string x.Input, .slice A1 x.Names.length c1, .slice A2 x.Rows.length c2, .slice A3 x.Marks.length c3] 26) := (hb.block _ (by simp)).trans (heap_alloc_new _ _)
  have HA0 : Hid (w.heap.size < w1.heap.size) := (HA.out.lt : _ < _)
  clear hb hbn HC
  by_cases hneg : z < 0
  case pos =>
    go_wp2
    go_ret
    exact ⟨rfl, HB.out⟩
  have HSZ : Hid (rTableau.sz x ≤ 1048576) := by unfold Hid; have := hz.resolve_left hneg; omega
  clear hz
  have HC : Hid (∀ W, Below w1.heap.size w1 W → Calls Tryz.prog 14 #[.agg #[.string x.Input, .slice A1 x.Names.length c1, .slice A2 x.Rows.length c2, .slice A3 x.Marks.length c3]] W (TabPost x W)) := fun W hW => toTableau_any x _ _ _ _ _ _ W HSZ.out (HV.out.kept hW)
  have bHA0 := HA.out.cell 0 rfl
  have bHA1 := HA.out.cell 1 rfl
  have bHA2 := HA.out.cell 2 rfl
  have bHA3 := HA.out.cell 3 rfl
  go_wp2_with fail
  refine (HC.out _ (by first | exact Below.refl _ _ | exact (Below.refl _ _).alloc (Nat.le_refl _) _ | exact (Below.refl _ _).drew)).mono ?_
  rintro e w2 ⟨Au1, cu1, Au2, cu2, Au3, cu3, Gu1, Gu2, Gu3, rfl, hq, hg, hb⟩
  clear bHA0 bHA1 bHA2 bHA3
  have hbn : Below w1.heap.size w1 w2 := below_step (by first | exact Below.refl _ _ | exact (Below.refl _ _).alloc (Nat.le_refl _) _ | exact (Below.refl _ _).drew) hb
  have hs2 : Hid (w1.heap.size ≤ w2.heap.size) := hbn.size
  replace HV := Lib.hid (HV.out.kept hbn)
  replace HVr := Lib.hid (HVr.out.kept hbn)
  replace HA := Lib.hid (HA.out.kept hbn)
  replace HB := Lib.hid (HB.out.trans (hbn.mono HB.out.size))
  have Hu := Lib.hid hq
  have Ru : Hid (∀ a, Gu1 a ∨ Gu2 a ∨ Gu3 a → w1.heap.size ≤ a.block ∧ a.block < w2.heap.size) := fun a ha => ⟨Nat.le_trans (Below.size (B := w1.heap.size) (w := w1) (by first | exact Below.refl _ _ | exact (Below.refl _ _).alloc (Nat.le_refl _) _ | exact (Below.refl _ _).drew)) (hg a ha).1, (hg a ha).2⟩
  clear hb hbn HC hq hg
  have HC : Hid (∀ W, Below w2.heap.size w2 W → Calls Tryz.prog 15 #[.slice Ar r.length kr] W (OwnPost Rep.int r W)) := fun W hW => toIntS_any _ r _ W HSZr.out (HVr.out.kept hW)
  have bHA0 := HA.out.cell 0 rfl
  have bHA1 := HA.out.cell 1 rfl
  have bHA2 := HA.out.cell 2 rfl
  have bHA3 := HA.out.cell 3 rfl
  go_wp2_with fail
  refine (HC.out _ (by first | exact Below.refl _ _ | exact (Below.refl _ _).alloc (Nat.le_refl _) _ | exact (Below.refl _ _).drew)).mono ?_
  rintro e w3 ⟨u2, rfl, hq, hb⟩
  clear bHA0 bHA1 bHA2 bHA3
  have hbn : Below w2.heap.size w2 w3 := below_step (by first | exact Below.refl _ _ | exact (Below.refl _ _).alloc (Nat.le_refl _) _ | exact (Below.refl _ _).drew) hb
  have hs3 : Hid (w2.heap.size ≤ w3.heap.size) := hbn.size
  replace HV := Lib.hid (HV.out.kept hbn)
  replace HVr := Lib.hid (HVr.out.kept hbn)
  replace HA := Lib.hid (HA.out.kept hbn)
  replace Hu := Lib.hid (Hu.out.kept hbn)
  replace HB := Lib.hid (HB.out.trans (hbn.mono HB.out.size))
  have Hu2 := Lib.hid (hq.tight.mono (G := fun a => w2.heap.size ≤ a.block ∧ a.block < w3.heap.size) (fun a ha => ⟨Nat.le_trans (Below.size (B := w2.heap.size) (w := w2) (by first | exact Below.refl _ _ | exact (Below.refl _ _).alloc (Nat.le_refl _) _ | exact (Below.refl _ _).drew)) ha.1, ha.2⟩))
  clear hb hbn HC hq
  have HC : Hid (∀ W, Below w3.heap.size w3 W → Calls Tryz.prog 13 #[.agg #[.string x.Input, .slice Au1 x.Names.length cu1, .slice Au2 x.Rows.length cu2, .slice Au3 x.Marks.length cu3], u2] W (IntPost11 (winW x r) W)) := fun W hW => specWin_any x r Au1 cu1 Au2 cu2 Au3 cu3 _ _ _ _ _ W HSZ.out (Hu.out.kept hW).weak (Hu2.out.kept hW).weak
  have bHA0 := HA.out.cell 0 rfl
  have bHA1 := HA.out.cell 1 rfl
  have bHA2 := HA.out.cell 2 rfl
  have bHA3 := HA.out.cell 3 rfl
  go_wp2_with fail
  refine (HC.out _ (by first | exact Below.refl _ _ | exact (Below.refl _ _).alloc (Nat.le_refl _) _ | exact (Below.refl _ _).drew)).mono ?_
  rintro e w4 ⟨g0, rfl, hq, hb⟩
  clear bHA0 bHA1 bHA2 bHA3
  have hbn : Below w3.heap.size w3 w4 := below_step (by first | exact Below.refl _ _ | exact (Below.refl _ _).alloc (Nat.le_refl _) _ | exact (Below.refl _ _).drew) hb
  have hs4 : Hid (w3.heap.size ≤ w4.heap.size) := hbn.size
  replace HV := Lib.hid (HV.out.kept hbn)
  replace HVr := Lib.hid (HVr.out.kept hbn)
  replace HA := Lib.hid (HA.out.kept hbn)
  replace Hu := Lib.hid (Hu.out.kept hbn)
  replace Hu2 := Lib.hid (Hu2.out.kept hbn)
  replace HB := Lib.hid (HB.out.trans (hbn.mono HB.out.size))
  have Hg0 := Lib.hid (hq.tight.mono (G := fun a => w3.heap.size ≤ a.block ∧ a.block < w4.heap.size) (fun a ha => ⟨Nat.le_trans (Below.size (B := w3.heap.size) (w := w3) (by first | exact Below.refl _ _ | exact (Below.refl _ _).alloc (Nat.le_refl _) _ | exact (Below.refl _ _).drew)) ha.1, ha.2⟩))
  clear hb hbn HC hq
  clear Hu
  clear Hu2
  have HC : Hid (∀ W, Below w4.heap.size w4 W → Calls Tryz.prog 14 #[.agg #[.string x.Input, .slice A1 x.Names.length c1, .slice A2 x.Rows.length c2, .slice A3 x.Marks.length c3]] W (TabPost x W)) := fun W hW => toTableau_any x _ _ _ _ _ _ W HSZ.out (HV.out.kept hW)
  have bHA0 := HA.out.cell 0 rfl
  have bHA1 := HA.out.cell 1 rfl
  have bHA2 := HA.out.cell 2 rfl
  have bHA3 := HA.out.cell 3 rfl
  go_wp2_with fail
  refine (HC.out _ (by first | exact Below.refl _ _ | exact (Below.refl _ _).alloc (Nat.le_refl _) _ | exact (Below.refl _ _).drew)).mono ?_
  rintro e w5 ⟨Ax1, cx1, Ax2, cx2, Ax3, cx3, Gx1, Gx2, Gx3, rfl, hq, hg, hb⟩
  clear bHA0 bHA1 bHA2 bHA3
  have hbn : Below w4.heap.size w4 w5 := below_step (by first | exact Below.refl _ _ | exact (Below.refl _ _).alloc (Nat.le_refl _) _ | exact (Below.refl _ _).drew) hb
  have hs5 : Hid (w4.heap.size ≤ w5.heap.size) := hbn.size
  replace HV := Lib.hid (HV.out.kept hbn)
  replace HVr := Lib.hid (HVr.out.kept hbn)
  replace HA := Lib.hid (HA.out.kept hbn)
  replace Hg0 := Lib.hid (Hg0.out.kept hbn)
  replace HB := Lib.hid (HB.out.trans (hbn.mono HB.out.size))
  have Hx := Lib.hid hq
  have Rx : Hid (∀ a, Gx1 a ∨ Gx2 a ∨ Gx3 a → w4.heap.size ≤ a.block ∧ a.block < w5.heap.size) := fun a ha => ⟨Nat.le_trans (Below.size (B := w4.heap.size) (w := w4) (by first | exact Below.refl _ _ | exact (Below.refl _ _).alloc (Nat.le_refl _) _ | exact (Below.refl _ _).drew)) (hg a ha).1, (hg a ha).2⟩
  clear hb hbn HC hq hg
  have HC : Hid (∀ W, Below w5.heap.size w5 W → Calls Tryz.prog 15 #[.slice Ar r.length kr] W (OwnPost Rep.int r W)) := fun W hW => toIntS_any _ r _ W HSZr.out (HVr.out.kept hW)
  have bHA0 := HA.out.cell 0 rfl
  have bHA1 := HA.out.cell 1 rfl
  have bHA2 := HA.out.cell 2 rfl
  have bHA3 := HA.out.cell 3 rfl
  go_wp2_with fail
  refine (HC.out _ (by first | exact Below.refl _ _ | exact (Below.refl _ _).alloc (Nat.le_refl _) _ | exact (Below.refl _ _).drew)).mono ?_
  rintro e w6 ⟨x1, rfl, hq, hb⟩
  clear bHA0 bHA1 bHA2 bHA3
  have hbn : Below w5.heap.size w5 w6 := below_step (by first | exact Below.refl _ _ | exact (Below.refl _ _).alloc (Nat.le_refl _) _ | exact (Below.refl _ _).drew) hb
  have hs6 : Hid (w5.heap.size ≤ w6.heap.size) := hbn.size
  replace HV := Lib.hid (HV.out.kept hbn)
  replace HVr := Lib.hid (HVr.out.kept hbn)
  replace HA := Lib.hid (HA.out.kept hbn)
  replace Hg0 := Lib.hid (Hg0.out.kept hbn)
  replace Hx := Lib.hid (Hx.out.kept hbn)
  replace HB := Lib.hid (HB.out.trans (hbn.mono HB.out.size))
  have Hx1 := Lib.hid (hq.tight.mono (G := fun a => w5.heap.size ≤ a.block ∧ a.block < w6.heap.size) (fun a ha => ⟨Nat.le_trans (Below.size (B := w5.heap.size) (w := w5) (by first | exact Below.refl _ _ | exact (Below.refl _ _).alloc (Nat.le_refl _) _ | exact (Below.refl _ _).drew)) ha.1, ha.2⟩))
  have HX : Hid (InC w6 w5.heap.size #[.string x.Input, .slice Ax1 x.Names.length cx1, .slice Ax2 x.Rows.length cx2, .slice Ax3 x.Marks.length cx3] 32) := (hb.block _ (by simp)).trans (heap_alloc_new _ _)
  clear hb hbn HC hq
  have HC : Hid (∀ W, Below w6.heap.size w6 W → Calls Tryz.prog 16 #[.agg #[.string x.Input, .slice Ax1 x.Names.length cx1, .slice Ax2 x.Rows.length cx2, .slice Ax3 x.Marks.length cx3], x1] W (IntPost11 (winW x r) W)) := fun W hW => implWin_any x r Ax1 cx1 Ax2 cx2 Ax3 cx3 _ _ _ _ _ W HSZ.out (Hx.out.kept hW).weak (Hx1.out.kept hW).weak (feat_below HFT.out (HB.out.trans (hW.mono HB.out.size)))
  have bHA0 := HA.out.cell 0 rfl
  have bHA1 := HA.out.cell 1 rfl
  have bHA2 := HA.out.cell 2 rfl
  have bHA3 := HA.out.cell 3 rfl
  have bHX0 := HX.out.cell 0 rfl
  have bHX1 := HX.out.cell 1 rfl
  have bHX2 := HX.out.cell 2 rfl
  have bHX3 := HX.out.cell 3 rfl
  go_wp2_with fail
  refine (HC.out _ (by first | exact Below.refl _ _ | exact (Below.refl _ _).alloc (Nat.le_refl _) _ | exact (Below.refl _ _).drew)).mono ?_
  rintro e w7 ⟨g1, rfl, hq, hb⟩
  clear bHA0 bHA1 bHA2 bHA3 bHX0 bHX1 bHX2 bHX3
  have hbn : Below w6.heap.size w6 w7 := below_step (by first | exact Below.refl _ _ | exact (Below.refl _ _).alloc (Nat.le_refl _) _ | exact (Below.refl _ _).drew) hb
  have hs7 : Hid (w6.heap.size ≤ w7.heap.size) := hbn.size
  replace HV := Lib.hid (HV.out.kept hbn)
  replace HVr := Lib.hid (HVr.out.kept hbn)
  replace HA := Lib.hid (HA.out.kept hbn)
  replace Hg0 := Lib.hid (Hg0.out.kept hbn)
  replace Hx := Lib.hid (Hx.out.kept hbn)
  replace Hx1 := Lib.hid (Hx1.out.kept hbn)
  replace HX := Lib.hid (HX.out.kept hbn)
  replace HB := Lib.hid (HB.out.trans (hbn.mono HB.out.size))
  have Hg1 := Lib.hid (hq.tight.mono (G := fun a => w6.heap.size ≤ a.block ∧ a.block < w7.heap.size) (fun a ha => ⟨Nat.le_trans (Below.size (B := w6.heap.size) (w := w6) (by first | exact Below.refl _ _ | exact (Below.refl _ _).alloc (Nat.le_refl _) _ | exact (Below.refl _ _).drew)) ha.1, ha.2⟩))
  clear hb hbn HC hq
  have HC : Hid (∀ W, Below w7.heap.size w7 W → Calls Tryz.prog 17 #[g1, g0] W fun e w' => e = .returned (.bool true) ∧ Below W.heap.size W w') := fun W hW => eqIntS_any _ _ (winW x r) _ _ W (Hg1.out.kept hW).weak (Hg0.out.kept hW).weak
  have bHA0 := HA.out.cell 0 rfl
  have bHA1 := HA.out.cell 1 rfl
  have bHA2 := HA.out.cell 2 rfl
  have bHA3 := HA.out.cell 3 rfl
  have bHX0 := HX.out.cell 0 rfl
  have bHX1 := HX.out.cell 1 rfl
  have bHX2 := HX.out.cell 2 rfl
  have bHX3 := HX.out.cell 3 rfl
  go_wp2_with fail
  refine (HC.out _ (by first | exact Below.refl _ _ | exact (Below.refl _ _).alloc (Nat.le_refl _) _ | exact (Below.refl _ _).drew)).mono ?_
  rintro e w8 ⟨rfl, hb⟩
  clear bHA0 bHA1 bHA2 bHA3 bHX0 bHX1 bHX2 bHX3
  have hbn : Below w7.heap.size w7 w8 := below_step (by first | exact Below.refl _ _ | exact (Below.refl _ _).alloc (Nat.le_refl _) _ | exact (Below.refl _ _).drew) hb
  have hs8 : Hid (w7.heap.size ≤ w8.heap.size) := hbn.size
  replace HV := Lib.hid (HV.out.kept hbn)
  replace HVr := Lib.hid (HVr.out.kept hbn)
  replace HA := Lib.hid (HA.out.kept hbn)
  replace Hg0 := Lib.hid (Hg0.out.kept hbn)
  replace Hx := Lib.hid (Hx.out.kept hbn)
  replace Hx1 := Lib.hid (Hx1.out.kept hbn)
  replace HX := Lib.hid (HX.out.kept hbn)
  replace Hg1 := Lib.hid (Hg1.out.kept hbn)
  replace HB := Lib.hid (HB.out.trans (hbn.mono HB.out.size))
  clear hb hbn HC
  have HTO : Hid (∀ W, Below w8.heap.size w8 W → Calls Tryz.prog 14 #[.agg #[.string x.Input, .slice A1 x.Names.length c1, .slice A2 x.Rows.length c2, .slice A3 x.Marks.length c3]] W (TabPost x W)) := fun W hW => toTableau_any x _ _ _ _ _ _ W HSZ.out (HV.out.kept hW)
  have HEQ : Hid (∀ (W : World) (u1 u2 u3 : Value) (G1 G2 G3 : Addr → Prop), Below w8.heap.size w8 W → TabRd true W u1 u2 u3 x G1 G2 G3 → Calls Tryz.prog 18 #[.agg #[.string x.Input, .slice Ax1 x.Names.length cx1, .slice Ax2 x.Rows.length cx2, .slice Ax3 x.Marks.length cx3], .agg #[.string x.Input, u1, u2, u3]] W fun e w' => e = .returned (.bool true) ∧ Below W.heap.size W w') := fun W u1 u2 u3 G1 G2 G3 hW hu => eqTableau_any x _ _ _ _ _ _ _ _ _ _ _ _ W (Hx.out.kept hW).weak hu.weak
  have HXK : Hid (∀ W : World, Below w8.heap.size w8 W → InC W _ #[.string x.Input, .slice Ax1 x.Names.length cx1, .slice Ax2 x.Rows.length cx2, .slice Ax3 x.Marks.length cx3] 32) := fun W hW => HX.out.kept hW
  have bHA0 := HA.out.cell 0 rfl
  have bHA1 := HA.out.cell 1 rfl
  have bHA2 := HA.out.cell 2 rfl
  have bHA3 := HA.out.cell 3 rfl
  have bHX0 := HX.out.cell 0 rfl
  have bHX1 := HX.out.cell 1 rfl
  have bHX2 := HX.out.cell 2 rfl
  have bHX3 := HX.out.cell 3 rfl
  go_upto_region 13 with fail
  go_cut [42] (fun b wx => b = .bool false ∧ Below w8.heap.size w8 wx)
  case first =>
    go_region_with (first | (go_simp; go_at_call 14; refine (HTO.out _ ((Below.refl _ _).drew)).mono ?_; rintro e wt ⟨At1, ct1, At2, ct2, At3, ct3, T1, T2, T3, rfl, hqt, hgt, hbt0⟩; have hbt : Below w8.heap.size w8 wt := below_step ((Below.refl _ _).drew) hbt0; have e0 := (HXK.out _ hbt).cell 0 rfl; have e1 := (HXK.out _ hbt).cell 1 rfl; have e2 := (HXK.out _ hbt).cell 2 rfl; have e3 := (HXK.out _ hbt).cell 3 rfl; have HBT := Lib.hid hbt; have HQT := Lib.hid hqt; clear hbt0 hqt hgt hbt) | (go_simp; go_at_call 18; refine (HEQ.out _ _ _ _ _ _ _ HBT.out HQT.out).mono ?_; rintro e wz ⟨rfl, hbz0⟩; have HBZ := Lib.hid (below_step HBT.out hbz0); clear hbz0))
    all_goals
      go_wp2_with fail
      go_meet
      exact ⟨rfl, HBZ.out⟩
  case rest =>
  obtain ⟨rfl, hbn⟩ := hcut
  clear HTO HEQ HXK
  clear bHA0 bHA1 bHA2 bHA3 bHX0 bHX1 bHX2 bHX3
  generalize wc = w9 at *
  have hs9 : Hid (w8.heap.size ≤ w9.heap.size) := hbn.size
  replace HV := Lib.hid (HV.out.kept hbn)
  replace HVr := Lib.hid (HVr.out.kept hbn)
  replace HA := Lib.hid (HA.out.kept hbn)
  replace Hg0 := Lib.hid (Hg0.out.kept hbn)
  replace Hx := Lib.hid (Hx.out.kept hbn)
  replace Hx1 := Lib.hid (Hx1.out.kept hbn)
  replace HX := Lib.hid (HX.out.kept hbn)
  replace Hg1 := Lib.hid (Hg1.out.kept hbn)
  replace HB := Lib.hid (HB.out.trans (hbn.mono HB.out.size))
  clear hbn
  have HC : Hid (∀ W, Below w9.heap.size w9 W → Calls Tryz.prog 15 #[.slice Ar r.length kr] W (OwnPost Rep.int r W)) := fun W hW => toIntS_any _ r _ W HSZr.out (HVr.out.kept hW)
  have bHA0 := HA.out.cell 0 rfl
  have bHA1 := HA.out.cell 1 rfl
  have bHA2 := HA.out.cell 2 rfl
  have bHA3 := HA.out.cell 3 rfl
  have bHX0 := HX.out.cell 0 rfl
  have bHX1 := HX.out.cell 1 rfl
  have bHX2 := HX.out.cell 2 rfl
  have bHX3 := HX.out.cell 3 rfl
  go_wp2_with fail
  refine (HC.out _ (by first | exact Below.refl _ _ | exact (Below.refl _ _).alloc (Nat.le_refl _) _ | exact (Below.refl _ _).drew)).mono ?_
  rintro e w10 ⟨y2, rfl, hq, hb⟩
  clear bHA0 bHA1 bHA2 bHA3 bHX0 bHX1 bHX2 bHX3
  have hbn : Below w9.heap.size w9 w10 := below_step (by first | exact Below.refl _ _ | exact (Below.refl _ _).alloc (Nat.le_refl _) _ | exact (Below.refl _ _).drew) hb
  have hs10 : Hid (w9.heap.size ≤ w10.heap.size) := hbn.size
  replace HV := Lib.hid (HV.out.kept hbn)
  replace HVr := Lib.hid (HVr.out.kept hbn)
  replace HA := Lib.hid (HA.out.kept hbn)
  replace Hg0 := Lib.hid (Hg0.out.kept hbn)
  replace Hx := Lib.hid (Hx.out.kept hbn)
  replace Hx1 := Lib.hid (Hx1.out.kept hbn)
  replace HX := Lib.hid (HX.out.kept hbn)
  replace Hg1 := Lib.hid (Hg1.out.kept hbn)
  replace HB := Lib.hid (HB.out.trans (hbn.mono HB.out.size))
  have Hy2 := Lib.hid (hq.tight.mono (G := fun a => w9.heap.size ≤ a.block ∧ a.block < w10.heap.size) (fun a ha => ⟨Nat.le_trans (Below.size (B := w9.heap.size) (w := w9) (by first | exact Below.refl _ _ | exact (Below.refl _ _).alloc (Nat.le_refl _) _ | exact (Below.refl _ _).drew)) ha.1, ha.2⟩))
  clear hb hbn HC hq
  have HC : Hid (∀ W, Below w10.heap.size w10 W → Calls Tryz.prog 17 #[x1, y2] W fun e w' => e = .returned (.bool true) ∧ Below W.heap.size W w') := fun W hW => eqIntS_any _ _ (r) _ _ W (Hx1.out.kept hW).weak (Hy2.out.kept hW).weak
  have bHA0 := HA.out.cell 0 rfl
  have bHA1 := HA.out.cell 1 rfl
  have bHA2 := HA.out.cell 2 rfl
  have bHA3 := HA.out.cell 3 rfl
  have bHX0 := HX.out.cell 0 rfl
  have bHX1 := HX.out.cell 1 rfl
  have bHX2 := HX.out.cell 2 rfl
  have bHX3 := HX.out.cell 3 rfl
  go_wp2_with fail
  refine (HC.out _ (by first | exact Below.refl _ _ | exact (Below.refl _ _).alloc (Nat.le_refl _) _ | exact (Below.refl _ _).drew)).mono ?_
  rintro e w11 ⟨rfl, hb⟩
  clear bHA0 bHA1 bHA2 bHA3 bHX0 bHX1 bHX2 bHX3
  have hbn : Below w10.heap.size w10 w11 := below_step (by first | exact Below.refl _ _ | exact (Below.refl _ _).alloc (Nat.le_refl _) _ | exact (Below.refl _ _).drew) hb
  have hs11 : Hid (w10.heap.size ≤ w11.heap.size) := hbn.size
  replace HV := Lib.hid (HV.out.kept hbn)
  replace HVr := Lib.hid (HVr.out.kept hbn)
  replace HA := Lib.hid (HA.out.kept hbn)
  replace Hg0 := Lib.hid (Hg0.out.kept hbn)
  replace Hx := Lib.hid (Hx.out.kept hbn)
  replace Hx1 := Lib.hid (Hx1.out.kept hbn)
  replace HX := Lib.hid (HX.out.kept hbn)
  replace Hg1 := Lib.hid (Hg1.out.kept hbn)
  replace Hy2 := Lib.hid (Hy2.out.kept hbn)
  replace HB := Lib.hid (HB.out.trans (hbn.mono HB.out.size))
  clear hb hbn HC
  clear Hy2
  have HCG : Hid (1 + cntRow Rep.int (winW x r) ≤ 1000000000) := by unfold Hid; rw [cntRow_int]; have h1 := winW_len x r; have h2 := (szTab_parts HSZ.out).2.2.2.1; omega
  obtain ⟨cx, hcx⟩ : ∃ q : Nat, 1 + cntTab x = q := ⟨_, rfl⟩
  have hncx : ¬ ((cx : Nat) : Int) < 0 := by omega
  have HM := Lib.hid (markTableau_any x (.slice Ax1 x.Names.length cx1) (.slice Ax2 x.Rows.length cx2) (.slice Ax3 x.Marks.length cx3) 1 1 rfl w4.heap.size _ _ _ w11 (by have := hs1.out; have := hs2.out; have := hs3.out; have := hs4.out; have := hs5.out; have := hs6.out; have := hs7.out; have := hs8.out; have := hs9.out; have := hs10.out; have := hs11.out; omega) (fun a ha => (Rx.out a ha).1) (cntTab_le HSZ.out) (Nat.le_refl 1) Hx.out)
  rw [hcx] at HM
  have bHA0 := HA.out.cell 0 rfl
  have bHA1 := HA.out.cell 1 rfl
  have bHA2 := HA.out.cell 2 rfl
  have bHA3 := HA.out.cell 3 rfl
  have bHX0 := HX.out.cell 0 rfl
  have bHX1 := HX.out.cell 1 rfl
  have bHX2 := HX.out.cell 2 rfl
  have bHX3 := HX.out.cell 3 rfl
  go_wp2_with fail
  refine HM.out.mono ?_
  rintro e w12 ⟨rfl, hq, hu, hb⟩
  have hs12 : Hid (w11.heap.size ≤ w12.heap.size) := hu.size
  clear bHA0 bHA1 bHA2 bHA3 bHX0 bHX1 bHX2 bHX3
  clear HX
  replace HV := Lib.hid (HV.out.apart hu (fun a ha hf => by rcases ha with ha | ha | ha <;> (have h1 := ha.2; have h2 := (Rx.out a hf).1; have h3 := (Rx.out a hf).2; have := hs1.out; have := hs2.out; have := hs3.out; have := hs4.out; have := hs5.out; have := hs6.out; have := hs7.out; have := hs8.out; have := hs9.out; have := hs10.out; have := hs11.out; have := hs12.out; omega)))
  replace HVr := Lib.hid (HVr.out.apart hu (fun a ha hf => by have h2 := (Rx.out a hf).1; have h3 := (Rx.out a hf).2; have := hs1.out; have := hs2.out; have := hs3.out; have := hs4.out; have := hs5.out; have := hs6.out; have := hs7.out; have := hs8.out; have := hs9.out; have := hs10.out; have := hs11.out; have := hs12.out; omega))
  replace HA := Lib.hid (HA.out.keptB hb (by have := hs1.out; have := hs2.out; have := hs3.out; have := hs4.out; have := hs5.out; have := hs6.out; have := hs7.out; have := hs8.out; have := hs9.out; have := hs10.out; have := hs11.out; have := hs12.out; have := HA0.out; omega))
  replace Hg0 := Lib.hid (Hg0.out.apart hu (fun a ha hf => by have h2 := (Rx.out a hf).1; have h3 := (Rx.out a hf).2; have := hs1.out; have := hs2.out; have := hs3.out; have := hs4.out; have := hs5.out; have := hs6.out; have := hs7.out; have := hs8.out; have := hs9.out; have := hs10.out; have := hs11.out; have := hs12.out; omega))
  replace Hx1 := Lib.hid (Hx1.out.apart hu (fun a ha hf => by have h2 := (Rx.out a hf).1; have h3 := (Rx.out a hf).2; have := hs1.out; have := hs2.out; have := hs3.out; have := hs4.out; have := hs5.out; have := hs6.out; have := hs7.out; have := hs8.out; have := hs9.out; have := hs10.out; have := hs11.out; have := hs12.out; omega))
  replace Hg1 := Lib.hid (Hg1.out.apart hu (fun a ha hf => by have h2 := (Rx.out a hf).1; have h3 := (Rx.out a hf).2; have := hs1.out; have := hs2.out; have := hs3.out; have := hs4.out; have := hs5.out; have := hs6.out; have := hs7.out; have := hs8.out; have := hs9.out; have := hs10.out; have := hs11.out; have := hs12.out; omega))
  replace HB := Lib.hid (HB.out.trans (hb.mono (by have := hs1.out; have := hs2.out; have := hs3.out; have := hs4.out; have := hs5.out; have := hs6.out; have := hs7.out; have := hs8.out; have := hs9.out; have := hs10.out; have := hs11.out; have := hs12.out; omega)))
  clear HM hq hu hb
  have HCR : Hid (cx + cntRow Rep.int r ≤ 1000000000) := by unfold Hid; rw [cntRow_int]; have h1 := cntTab_le2 HSZ.out; omega
  obtain ⟨cr, hcr⟩ : ∃ q : Nat, cx + cntRow Rep.int (r) = q := ⟨_, rfl⟩
  have hncr : ¬ ((cr : Nat) : Int) < 0 := by omega
  have HM := Lib.hid (markIntS_any x1 (r) ((cx : Nat) : Int) cx rfl w5.heap.size _ w12 (fun a ha => by have := hs1.out; have := hs2.out; have := hs3.out; have := hs4.out; have := hs5.out; have := hs6.out; have := hs7.out; have := hs8.out; have := hs9.out; have := hs10.out; have := hs11.out; have := hs12.out; omega) HCR.out (by omega) Hx1.out)
  rw [hcr] at HM
  have bHA0 := HA.out.cell 0 rfl
  have bHA1 := HA.out.cell 1 rfl
  have bHA2 := HA.out.cell 2 rfl
  have bHA3 := HA.out.cell 3 rfl
  go_wp2_with fail
  refine HM.out.mono ?_
  rintro e w13 ⟨rfl, hq, hu, hb⟩
  have hs13 : Hid (w12.heap.size ≤ w13.heap.size) := hu.size
  clear bHA0 bHA1 bHA2 bHA3
  replace HV := Lib.hid (HV.out.apart hu (fun a ha hf => by rcases ha with ha | ha | ha <;> (have h1 := ha.2;  have := hs1.out; have := hs2.out; have := hs3.out; have := hs4.out; have := hs5.out; have := hs6.out; have := hs7.out; have := hs8.out; have := hs9.out; have := hs10.out; have := hs11.out; have := hs12.out; have := hs13.out; omega)))
  replace HVr := Lib.hid (HVr.out.apart hu (fun a ha hf => by  have := hs1.out; have := hs2.out; have := hs3.out; have := hs4.out; have := hs5.out; have := hs6.out; have := hs7.out; have := hs8.out; have := hs9.out; have := hs10.out; have := hs11.out; have := hs12.out; have := hs13.out; omega))
  replace HA := Lib.hid (HA.out.keptB hb (by have := hs1.out; have := hs2.out; have := hs3.out; have := hs4.out; have := hs5.out; have := hs6.out; have := hs7.out; have := hs8.out; have := hs9.out; have := hs10.out; have := hs11.out; have := hs12.out; have := hs13.out; have := HA0.out; omega))
  replace Hg0 := Lib.hid (Hg0.out.apart hu (fun a ha hf => by  have := hs1.out; have := hs2.out; have := hs3.out; have := hs4.out; have := hs5.out; have := hs6.out; have := hs7.out; have := hs8.out; have := hs9.out; have := hs10.out; have := hs11.out; have := hs12.out; have := hs13.out; omega))
  replace Hg1 := Lib.hid (Hg1.out.apart hu (fun a ha hf => by  have := hs1.out; have := hs2.out; have := hs3.out; have := hs4.out; have := hs5.out; have := hs6.out; have := hs7.out; have := hs8.out; have := hs9.out; have := hs10.out; have := hs11.out; have := hs12.out; have := hs13.out; omega))
  replace Hx1 := Lib.hid hq
  replace HB := Lib.hid (HB.out.trans (hb.mono (by have := hs1.out; have := hs2.out; have := hs3.out; have := hs4.out; have := hs5.out; have := hs6.out; have := hs7.out; have := hs8.out; have := hs9.out; have := hs10.out; have := hs11.out; have := hs12.out; have := hs13.out; omega)))
  clear HM hq hu hb
  have HC : Hid (∀ W, Below w13.heap.size w13 W → Calls Tryz.prog 17 #[g1, g0] W fun e w' => e = .returned (.bool true) ∧ Below W.heap.size W w') := fun W hW => eqIntS_any _ _ (winW x r) _ _ W (Hg1.out.kept hW).weak (Hg0.out.kept hW).weak
  have bHA0 := HA.out.cell 0 rfl
  have bHA1 := HA.out.cell 1 rfl
  have bHA2 := HA.out.cell 2 rfl
  have bHA3 := HA.out.cell 3 rfl
  go_wp2_with fail
  refine (HC.out _ (by first | exact Below.refl _ _ | exact (Below.refl _ _).alloc (Nat.le_refl _) _ | exact (Below.refl _ _).drew)).mono ?_
  rintro e w14 ⟨rfl, hb⟩
  clear bHA0 bHA1 bHA2 bHA3
  have hbn : Below w13.heap.size w13 w14 := below_step (by first | exact Below.refl _ _ | exact (Below.refl _ _).alloc (Nat.le_refl _) _ | exact (Below.refl _ _).drew) hb
  have hs14 : Hid (w13.heap.size ≤ w14.heap.size) := hbn.size
  replace HV := Lib.hid (HV.out.kept hbn)
  replace HVr := Lib.hid (HVr.out.kept hbn)
  replace HA := Lib.hid (HA.out.kept hbn)
  replace Hg0 := Lib.hid (Hg0.out.kept hbn)
  replace Hx1 := Lib.hid (Hx1.out.kept hbn)
  replace Hg1 := Lib.hid (Hg1.out.kept hbn)
  replace HB := Lib.hid (HB.out.trans (hbn.mono HB.out.size))
  clear hb hbn HC
  obtain ⟨cg, hcg⟩ : ∃ q : Nat, 1 + cntRow Rep.int (winW x r) = q := ⟨_, rfl⟩
  have hncg : ¬ ((cg : Nat) : Int) < 0 := by omega
  have HM := Lib.hid (markIntS_any g1 (winW x r) 1 1 rfl w6.heap.size _ w14 (fun a ha => by have := hs1.out; have := hs2.out; have := hs3.out; have := hs4.out; have := hs5.out; have := hs6.out; have := hs7.out; have := hs8.out; have := hs9.out; have := hs10.out; have := hs11.out; have := hs12.out; have := hs13.out; have := hs14.out; omega) HCG.out (Nat.le_refl 1) Hg1.out)
  rw [hcg] at HM
  have bHA0 := HA.out.cell 0 rfl
  have bHA1 := HA.out.cell 1 rfl
  have bHA2 := HA.out.cell 2 rfl
  have bHA3 := HA.out.cell 3 rfl
  go_wp2_with fail
  refine HM.out.mono ?_
  rintro e w15 ⟨rfl, hq, hu, hb⟩
  have hs15 : Hid (w14.heap.size ≤ w15.heap.size) := hu.size
  clear bHA0 bHA1 bHA2 bHA3
  replace HV := Lib.hid (HV.out.apart hu (fun a ha hf => by rcases ha with ha | ha | ha <;> (have h1 := ha.2;  have := hs1.out; have := hs2.out; have := hs3.out; have := hs4.out; have := hs5.out; have := hs6.out; have := hs7.out; have := hs8.out; have := hs9.out; have := hs10.out; have := hs11.out; have := hs12.out; have := hs13.out; have := hs14.out; have := hs15.out; omega)))
  replace HVr := Lib.hid (HVr.out.apart hu (fun a ha hf => by  have := hs1.out; have := hs2.out; have := hs3.out; have := hs4.out; have := hs5.out; have := hs6.out; have := hs7.out; have := hs8.out; have := hs9.out; have := hs10.out; have := hs11.out; have := hs12.out; have := hs13.out; have := hs14.out; have := hs15.out; omega))
  replace HA := Lib.hid (HA.out.keptB hb (by have := hs1.out; have := hs2.out; have := hs3.out; have := hs4.out; have := hs5.out; have := hs6.out; have := hs7.out; have := hs8.out; have := hs9.out; have := hs10.out; have := hs11.out; have := hs12.out; have := hs13.out; have := hs14.out; have := hs15.out; have := HA0.out; omega))
  replace Hg0 := Lib.hid (Hg0.out.apart hu (fun a ha hf => by  have := hs1.out; have := hs2.out; have := hs3.out; have := hs4.out; have := hs5.out; have := hs6.out; have := hs7.out; have := hs8.out; have := hs9.out; have := hs10.out; have := hs11.out; have := hs12.out; have := hs13.out; have := hs14.out; have := hs15.out; omega))
  replace Hx1 := Lib.hid (Hx1.out.apart hu (fun a ha hf => by  have := hs1.out; have := hs2.out; have := hs3.out; have := hs4.out; have := hs5.out; have := hs6.out; have := hs7.out; have := hs8.out; have := hs9.out; have := hs10.out; have := hs11.out; have := hs12.out; have := hs13.out; have := hs14.out; have := hs15.out; omega))
  replace Hg1 := Lib.hid hq
  replace HB := Lib.hid (HB.out.trans (hb.mono (by have := hs1.out; have := hs2.out; have := hs3.out; have := hs4.out; have := hs5.out; have := hs6.out; have := hs7.out; have := hs8.out; have := hs9.out; have := hs10.out; have := hs11.out; have := hs12.out; have := hs13.out; have := hs14.out; have := hs15.out; omega)))
  clear HM hq hu hb
  have HC : Hid (∀ W, Below w15.heap.size w15 W → Calls Tryz.prog 21 #[g1, .int .i64 1] W fun e w' => e = .returned (.int .i64 ((cg : Nat) : Int)) ∧ Below W.heap.size W w') := fun W hW => by have := heldIntS_any g1 (winW x r) 1 1 rfl _ W HCG.out (Nat.le_refl 1) (Hg1.out.kept hW).weak; rw [hcg] at this; exact this
  have bHA0 := HA.out.cell 0 rfl
  have bHA1 := HA.out.cell 1 rfl
  have bHA2 := HA.out.cell 2 rfl
  have bHA3 := HA.out.cell 3 rfl
  go_wp2_with fail
  refine (HC.out _ (by first | exact Below.refl _ _ | exact (Below.refl _ _).alloc (Nat.le_refl _) _ | exact (Below.refl _ _).drew)).mono ?_
  rintro e w16 ⟨rfl, hb⟩
  clear bHA0 bHA1 bHA2 bHA3
  have hbn : Below w15.heap.size w15 w16 := below_step (by first | exact Below.refl _ _ | exact (Below.refl _ _).alloc (Nat.le_refl _) _ | exact (Below.refl _ _).drew) hb
  have hs16 : Hid (w15.heap.size ≤ w16.heap.size) := hbn.size
  replace HV := Lib.hid (HV.out.kept hbn)
  replace HVr := Lib.hid (HVr.out.kept hbn)
  replace HA := Lib.hid (HA.out.kept hbn)
  replace Hg0 := Lib.hid (Hg0.out.kept hbn)
  replace Hx1 := Lib.hid (Hx1.out.kept hbn)
  replace Hg1 := Lib.hid (Hg1.out.kept hbn)
  replace HB := Lib.hid (HB.out.trans (hbn.mono HB.out.size))
  clear hb hbn HC
  have HC : Hid (∀ W, Below w16.heap.size w16 W → Calls Tryz.prog 14 #[.agg #[.string x.Input, .slice A1 x.Names.length c1, .slice A2 x.Rows.length c2, .slice A3 x.Marks.length c3]] W (TabPost x W)) := fun W hW => toTableau_any x _ _ _ _ _ _ W HSZ.out (HV.out.kept hW)
  have bHA0 := HA.out.cell 0 rfl
  have bHA1 := HA.out.cell 1 rfl
  have bHA2 := HA.out.cell 2 rfl
  have bHA3 := HA.out.cell 3 rfl
  go_wp2_with fail
  refine (HC.out _ (by first | exact Below.refl _ _ | exact (Below.refl _ _).alloc (Nat.le_refl _) _ | exact (Below.refl _ _).drew)).mono ?_
  rintro e w17 ⟨Ay1, cy1, Ay2, cy2, Ay3, cy3, Gy1, Gy2, Gy3, rfl, hq, hg, hb⟩
  clear bHA0 bHA1 bHA2 bHA3
  have hbn : Below w16.heap.size w16 w17 := below_step (by first | exact Below.refl _ _ | exact (Below.refl _ _).alloc (Nat.le_refl _) _ | exact (Below.refl _ _).drew) hb
  have hs17 : Hid (w16.heap.size ≤ w17.heap.size) := hbn.size
  replace HV := Lib.hid (HV.out.kept hbn)
  replace HVr := Lib.hid (HVr.out.kept hbn)
  replace HA := Lib.hid (HA.out.kept hbn)
  replace Hg0 := Lib.hid (Hg0.out.kept hbn)
  replace Hx1 := Lib.hid (Hx1.out.kept hbn)
  replace Hg1 := Lib.hid (Hg1.out.kept hbn)
  replace HB := Lib.hid (HB.out.trans (hbn.mono HB.out.size))
  have Hy := Lib.hid hq
  have Ry : Hid (∀ a, Gy1 a ∨ Gy2 a ∨ Gy3 a → w16.heap.size ≤ a.block ∧ a.block < w17.heap.size) := fun a ha => ⟨Nat.le_trans (Below.size (B := w16.heap.size) (w := w16) (by first | exact Below.refl _ _ | exact (Below.refl _ _).alloc (Nat.le_refl _) _ | exact (Below.refl _ _).drew)) (hg a ha).1, (hg a ha).2⟩
  clear hb hbn HC hq hg
  have HC : Hid (∀ W, Below w17.heap.size w17 W → Calls Tryz.prog 15 #[.slice Ar r.length kr] W (OwnPost Rep.int r W)) := fun W hW => toIntS_any _ r _ W HSZr.out (HVr.out.kept hW)
  have bHA0 := HA.out.cell 0 rfl
  have bHA1 := HA.out.cell 1 rfl
  have bHA2 := HA.out.cell 2 rfl
  have bHA3 := HA.out.cell 3 rfl
  go_wp2_with fail
  refine (HC.out _ (by first | exact Below.refl _ _ | exact (Below.refl _ _).alloc (Nat.le_refl _) _ | exact (Below.refl _ _).drew)).mono ?_
  rintro e w18 ⟨y3, rfl, hq, hb⟩
  clear bHA0 bHA1 bHA2 bHA3
  have hbn : Below w17.heap.size w17 w18 := below_step (by first | exact Below.refl _ _ | exact (Below.refl _ _).alloc (Nat.le_refl _) _ | exact (Below.refl _ _).drew) hb
  have hs18 : Hid (w17.heap.size ≤ w18.heap.size) := hbn.size
  replace HV := Lib.hid (HV.out.kept hbn)
  replace HVr := Lib.hid (HVr.out.kept hbn)
  replace HA := Lib.hid (HA.out.kept hbn)
  replace Hg0 := Lib.hid (Hg0.out.kept hbn)
  replace Hx1 := Lib.hid (Hx1.out.kept hbn)
  replace Hg1 := Lib.hid (Hg1.out.kept hbn)
  replace Hy := Lib.hid (Hy.out.kept hbn)
  replace HB := Lib.hid (HB.out.trans (hbn.mono HB.out.size))
  have Hy3 := Lib.hid (hq.tight.mono (G := fun a => w17.heap.size ≤ a.block ∧ a.block < w18.heap.size) (fun a ha => ⟨Nat.le_trans (Below.size (B := w17.heap.size) (w := w17) (by first | exact Below.refl _ _ | exact (Below.refl _ _).alloc (Nat.le_refl _) _ | exact (Below.refl _ _).drew)) ha.1, ha.2⟩))
  clear hb hbn HC hq
  have HC : Hid (∀ W, Below w18.heap.size w18 W → Calls Tryz.prog 16 #[.agg #[.string x.Input, .slice Ay1 x.Names.length cy1, .slice Ay2 x.Rows.length cy2, .slice Ay3 x.Marks.length cy3], y3] W (IntPost11 (winW x r) W)) := fun W hW => implWin_any x r Ay1 cy1 Ay2 cy2 Ay3 cy3 _ _ _ _ _ W HSZ.out (Hy.out.kept hW).weak (Hy3.out.kept hW).weak (feat_below HFT.out (HB.out.trans (hW.mono HB.out.size)))
  have bHA0 := HA.out.cell 0 rfl
  have bHA1 := HA.out.cell 1 rfl
  have bHA2 := HA.out.cell 2 rfl
  have bHA3 := HA.out.cell 3 rfl
  go_wp2_with fail
  refine (HC.out _ (by first | exact Below.refl _ _ | exact (Below.refl _ _).alloc (Nat.le_refl _) _ | exact (Below.refl _ _).drew)).mono ?_
  rintro e w19 ⟨g2, rfl, hq, hb⟩
  clear bHA0 bHA1 bHA2 bHA3
  have hbn : Below w18.heap.size w18 w19 := below_step (by first | exact Below.refl _ _ | exact (Below.refl _ _).alloc (Nat.le_refl _) _ | exact (Below.refl _ _).drew) hb
  have hs19 : Hid (w18.heap.size ≤ w19.heap.size) := hbn.size
  replace HV := Lib.hid (HV.out.kept hbn)
  replace HVr := Lib.hid (HVr.out.kept hbn)
  replace HA := Lib.hid (HA.out.kept hbn)
  replace Hg0 := Lib.hid (Hg0.out.kept hbn)
  replace Hx1 := Lib.hid (Hx1.out.kept hbn)
  replace Hg1 := Lib.hid (Hg1.out.kept hbn)
  replace Hy := Lib.hid (Hy.out.kept hbn)
  replace Hy3 := Lib.hid (Hy3.out.kept hbn)
  replace HB := Lib.hid (HB.out.trans (hbn.mono HB.out.size))
  have Hg2 := Lib.hid (hq.tight.mono (G := fun a => w18.heap.size ≤ a.block ∧ a.block < w19.heap.size) (fun a ha => ⟨Nat.le_trans (Below.size (B := w18.heap.size) (w := w18) (by first | exact Below.refl _ _ | exact (Below.refl _ _).alloc (Nat.le_refl _) _ | exact (Below.refl _ _).drew)) ha.1, ha.2⟩))
  clear hb hbn HC hq
  clear Hy
  clear Hy3
  have HC : Hid (∀ W, Below w19.heap.size w19 W → Calls Tryz.prog 17 #[g2, g0] W fun e w' => e = .returned (.bool true) ∧ Below W.heap.size W w') := fun W hW => eqIntS_any _ _ (winW x r) _ _ W (Hg2.out.kept hW).weak (Hg0.out.kept hW).weak
  have bHA0 := HA.out.cell 0 rfl
  have bHA1 := HA.out.cell 1 rfl
  have bHA2 := HA.out.cell 2 rfl
  have bHA3 := HA.out.cell 3 rfl
  go_wp2_with fail
  refine (HC.out _ (by first | exact Below.refl _ _ | exact (Below.refl _ _).alloc (Nat.le_refl _) _ | exact (Below.refl _ _).drew)).mono ?_
  rintro e w20 ⟨rfl, hb⟩
  clear bHA0 bHA1 bHA2 bHA3
  have hbn : Below w19.heap.size w19 w20 := below_step (by first | exact Below.refl _ _ | exact (Below.refl _ _).alloc (Nat.le_refl _) _ | exact (Below.refl _ _).drew) hb
  have hs20 : Hid (w19.heap.size ≤ w20.heap.size) := hbn.size
  replace HV := Lib.hid (HV.out.kept hbn)
  replace HVr := Lib.hid (HVr.out.kept hbn)
  replace HA := Lib.hid (HA.out.kept hbn)
  replace Hg0 := Lib.hid (Hg0.out.kept hbn)
  replace Hx1 := Lib.hid (Hx1.out.kept hbn)
  replace Hg1 := Lib.hid (Hg1.out.kept hbn)
  replace Hg2 := Lib.hid (Hg2.out.kept hbn)
  replace HB := Lib.hid (HB.out.trans (hbn.mono HB.out.size))
  clear hb hbn HC
  have HC : Hid (∀ W, Below w20.heap.size w20 W → Calls Tryz.prog 21 #[g1, .int .i64 1] W fun e w' => e = .returned (.int .i64 ((cg : Nat) : Int)) ∧ Below W.heap.size W w') := fun W hW => by have := heldIntS_any g1 (winW x r) 1 1 rfl _ W HCG.out (Nat.le_refl 1) (Hg1.out.kept hW).weak; rw [hcg] at this; exact this
  have bHA0 := HA.out.cell 0 rfl
  have bHA1 := HA.out.cell 1 rfl
  have bHA2 := HA.out.cell 2 rfl
  have bHA3 := HA.out.cell 3 rfl
  go_wp2_with fail
  refine (HC.out _ (by first | exact Below.refl _ _ | exact (Below.refl _ _).alloc (Nat.le_refl _) _ | exact (Below.refl _ _).drew)).mono ?_
  rintro e w21 ⟨rfl, hb⟩
  clear bHA0 bHA1 bHA2 bHA3
  have hbn : Below w20.heap.size w20 w21 := below_step (by first | exact Below.refl _ _ | exact (Below.refl _ _).alloc (Nat.le_refl _) _ | exact (Below.refl _ _).drew) hb
  have hs21 : Hid (w20.heap.size ≤ w21.heap.size) := hbn.size
  replace HV := Lib.hid (HV.out.kept hbn)
  replace HVr := Lib.hid (HVr.out.kept hbn)
  replace HA := Lib.hid (HA.out.kept hbn)
  replace Hg0 := Lib.hid (Hg0.out.kept hbn)
  replace Hx1 := Lib.hid (Hx1.out.kept hbn)
  replace Hg1 := Lib.hid (Hg1.out.kept hbn)
  replace Hg2 := Lib.hid (Hg2.out.kept hbn)
  replace HB := Lib.hid (HB.out.trans (hbn.mono HB.out.size))
  clear hb hbn HC
  go_wp2
  go_ret
  exact ⟨rfl, HB.out⟩
end Go.Proofs.YtkaihnlknncfdaaGreatDoor.fnExactWinnersOf

/- The fatal mark: mathematics. -/
namespace Go.Proofs.YtkaihnlknncfdaaGreatDoor
set_option maxRecDepth 100000
open Go.RowKit M
set_option linter.unusedVariables false
set_option linter.unusedSimpArgs false

/-- The first place of a ranking at which a has more than b. -/
def gtAt (a b : List Int) : List Int → Nat → Int
  | [], _ => -1
  | k :: r, i => if b.getD k.toNat 0 < a.getD k.toNat 0 then i else gtAt a b r (i + 1)
theorem gt_fdiff (a b : List Int) : ∀ (r : List Int) (i : Nat), 0 ≤ cmpL a b r → gtAt a b r i = (fdiff a b r i).1
  | [], i, _ => rfl
  | k :: r, i, h => by
    rw [cmpL_cons] at h
    unfold gtAt fdiff
    by_cases h0 : diffAt a b k = 0
    · rw [if_pos h0] at h ⊢
      have e := (diffAt_eq a b k).1 h0
      rw [if_neg (by omega)]
      exact gt_fdiff a b r (i + 1) h
    · rw [if_neg h0] at h ⊢
      have e := mt (diffAt_le a b k).2 (by omega)
      rw [if_pos (by omega)]
def fatOk (x : DTableau) (r : List Int) (i : Int) : Bool := decide (0 < (winW x r).length) && (decide (0 ≤ i) && decide (i < (x.Rows.length : Int)))
def fatX (x : DTableau) (r : List Int) (i : Int) : Int := if fatOk x r i then (fdiff (x.Marks.getD i.toNat []) (x.Marks.getD ((winW x r).getD 0 0).toNat []) r 0).1 else -1
theorem fat_no {x : DTableau} {r : List Int} {i : Int} (h : ¬ (0 < (winW x r).length ∧ 0 ≤ i ∧ i < (x.Rows.length : Int))) : fatX x r i = -1 := by
  unfold fatX
  rw [if_neg]
  unfold fatOk
  simp only [Bool.and_eq_true, decide_eq_true_eq]
  exact h
theorem fat_yes {x : DTableau} {r : List Int} {i : Nat} (h1 : 0 < (winW x r).length) (h2 : i < x.Rows.length) :
    ∃ (b : Nat) (rest a m : List Int), winW x r = (b : Int) :: rest ∧ b < x.Rows.length ∧ x.Marks[i]? = some a ∧ x.Marks[b]? = some m ∧ a.length = x.Names.length ∧ m.length = x.Names.length ∧ (∀ (j : Nat) (k : Int), r[j]? = some k → 0 ≤ k ∧ k < (x.Names.length : Int)) ∧ fatX x r i = (fdiff a m r 0).1 ∧ fatX x r i = gtAt a m r 0 ∧ x.Marks.length = x.Rows.length := by
  have ht : isTab x = true := by
    cases h : isTab x with
    | true => rfl
    | false => rw [winW_no (by rw [h]; rfl)] at h1; simp at h1
  have hr : rkB r x.Names.length = true := by
    cases h : rkB r x.Names.length with
    | true => rfl
    | false => rw [winW_no (by rw [h, Bool.and_false])] at h1; simp at h1
  have hml : x.Marks.length = x.Rows.length := (headT_parts (headT_of ht)).2.2.2.2
  obtain ⟨z, rest, he⟩ := List.exists_cons_of_length_pos h1
  have hz := winTo_mem (M := x.Marks) (r := r) (k := x.Marks.length) (z := z) (by have := winW_yes ht hr; unfold winL at this; rw [← this, he]; exact List.mem_cons_self ..)
  have hi := List.getElem?_eq_getElem (l := x.Marks) (i := i) (by omega)
  have hb := List.getElem?_eq_getElem (l := x.Marks) (i := z.toNat) (by omega)
  have hf : fatX x r i = (fdiff x.Marks[i] (x.Marks[z.toNat]'(by omega)) r 0).1 := by
    unfold fatX
    rw [if_pos (by unfold fatOk; simp; omega), he]
    rw [Int.toNat_natCast, List.getD_eq_getElem?_getD, hi, List.getD_eq_getElem?_getD (l := x.Marks) (i := ((z :: rest).getD 0 0).toNat)]
    show (fdiff _ ((x.Marks[z.toNat]?).getD []) r 0).1 = _
    rw [hb]; rfl
  have hc := okK_iff.1 hz.2.2 i (by omega)
  rw [List.getD_eq_getElem?_getD, List.getD_eq_getElem?_getD, hi, hb, cmpL_swap] at hc
  refine ⟨z.toNat, rest, _, _, by rw [he, Int.toNat_of_nonneg hz.1], by omega, hi, hb, tab_marks ht hi, tab_marks ht hb, fun j k hk => rk_at hr hk, hf, ?_, hml⟩
  rw [hf]
  exact (gt_fdiff _ _ r 0 (by simpa using hc)).symm
theorem gtAt_at {a b r : List Int} {i j : Nat} (h : r[i]? = some (j : Int)) {x y : Int} (ha : a[j]? = some x) (hb : b[j]? = some y) : gtAt a b (r.drop i) i = if y < x then (i : Int) else gtAt a b (r.drop (i + 1)) (i + 1) := by
  obtain ⟨hi, he⟩ := List.getElem?_eq_some_iff.1 h
  rw [List.drop_eq_getElem_cons hi, he, gtAt, Int.toNat_natCast, List.getD_eq_getElem?_getD, List.getD_eq_getElem?_getD, ha, hb]
  rfl
end Go.Proofs.YtkaihnlknncfdaaGreatDoor
