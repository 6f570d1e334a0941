/- The laws' markFootingS. -/
import Derived.Test.YtifmcbhgoncgjaaTrFooting
import Derived.Test.YtifmcbhgoncgjaaTmFootS
import Derived.WalkKit
import Derived.BigQuiet
import Derived.Lib.QuietBelow
import Derived.Test.YtifmcbhgoncgjaaRows
import Derived.Test.YtifmcbhgoncgjaaRet
namespace Go.Proofs.Ytifmcbhgoncgjaa
open Go.RowKit Go.Sort
set_option linter.unusedVariables false
set_option linter.unusedSimpArgs false

set_option maxHeartbeats 2000000 in
theorem markFootingS_any (v : Value) (l : List DFooting) (z : Int) (k0 : Nat) (hz : z = (k0 : Int)) (base : Nat) (F0 : Addr → Prop) (w : World) (hF0 : ∀ a, F0 a → base ≤ a.block) (hk : k0 + cntRow rFooting l ≤ 1000000000) (h1k : 1 ≤ k0) (hv0 : RowRd rFooting true w v l F0) :
    Calls Try.prog 23 #[v, .int .i64 z] w fun e w' => e = .returned (.int .i64 ((k0 + cntRow rFooting l : Nat) : Int)) ∧ RowRd rFooting true w' v (labRow rFooting k0 l) F0 ∧ Unch F0 w w' ∧ Below base w w' := by
  subst hz
  have hv := hv0.tight
  have HG : Hid (∀ a, (F0 a ∧ a.block < w.heap.size) → F0 a) := fun _ h => h.1
  have HFS : Hid (∀ a, (F0 a ∧ a.block < w.heap.size) → a.block < w.heap.size) := fun _ h => h.2
  have HFB : Hid (∀ a, (F0 a ∧ a.block < w.heap.size) → base ≤ a.block) := fun a h => hF0 a h.1
  generalize hF : (fun a => F0 a ∧ a.block < w.heap.size) = F at hv
  have HG : Hid (∀ a, F a → F0 a) := by subst hF; exact HG
  have HFS : Hid (∀ a, F a → a.block < w.heap.size) := by subst hF; exact HFS
  have HFB : Hid (∀ a, F a → base ≤ a.block) := by subst hF; exact HFB
  clear hF hF0
  have hmx := hv.max
  have HMX := Lib.hid hmx
  obtain ⟨A, cap, rfl⟩ := hv.form
  have HV := Lib.hid hv
  clear hv hv0
  have HX : Hid (∀ k, k < l.length → ∃ x, l[k]? = some x) := fun k hk => ⟨_, List.getElem?_eq_getElem hk⟩
  have HEND : Hid (labTo rFooting k0 l l.length = labRow rFooting k0 l ∧ cntTo rFooting l l.length = cntRow rFooting l) := ⟨labTo_all _ _ _, cntTo_all _ _⟩
  have HLE := Lib.hid (cntTo_le rFooting l)
  have H0 := Lib.hid (labTo_zero rFooting k0 l)
  have H00 : Hid (cntTo rFooting l 0 = 0) := rfl
  generalize hll : l.length = n at *
  clear hll
  generalize cntRow rFooting l = cr at *
  go_enter Try.func23, Try.ntmps23
  go_wp2
  go_loopw [1, 5] (fun q i wr => ∃ (k : Nat), k ≤ n ∧ i = .int .i64 k ∧ q = .int .i64 ((k0 + cntTo rFooting l k : Nat) : Int) ∧ RowRd rFooting true wr (.slice A n cap) (labTo rFooting k0 l k) F ∧ Unch F w wr ∧ Below base w wr) (fun _ i _ => n - (intOf i).toNat)
  case atStart => exact ⟨0, by omega, rfl, by rw [H00.out]; rfl, by rw [H0.out]; exact HV.out, Unch.refl _ _, Below.refl _ _⟩
  case round =>
    obtain ⟨k, hk, rfl, rfl, hrow, hun, hbe⟩ := hrel
    have HUN := Lib.hid hun
    have HBE := Lib.hid hbe
    clear hun hbe
    by_cases hkl : k < n
    · obtain ⟨x, hx⟩ := HX.out k hkl
      have hcs := cntTo_step rFooting l k hx
      have hle := HLE.out (k + 1)
      have HLS := Lib.hid (labTo_step rFooting k0 l k hx)
      obtain ⟨g, off, xs, Fk, rfl, hrd, hel, hFk, hcl, hput⟩ := hrow.open (labTo_at rFooting k0 l k hx)
      rw [show rFooting.size = 3 from rfl] at hel hcl hput
      rw [rFooting_cnt] at hcs
      have HCL := Lib.hid hcl
      have HFK := Lib.hid hFk
      have HPUT := Lib.hid hput
      have HCS := Lib.hid hcs
      have hcb0 : k0 + cntTo rFooting l k + (1 + (cntRow rFoot x.Feet + (1))) ≤ 1000000000 := by omega
      clear hrow hcl hFk hput hcs
      generalize hc : k0 + cntTo rFooting l k = c at *
      have hcb : c + 1 ≤ 1000000001 := by omega
      have HC := Lib.hid hc
      clear hc
      obtain ⟨v1, rfl, _, q1, _⟩ := rFooting_rd hrd
      clear hrd
      have c0 := hel.cell 0 rfl
      have f0 := hel.free 0 (by decide)
      have hs0 := hel.set 0 (by decide) (.int .i64 (((c : Nat) : Int)))
      simp only [Nat.add_zero] at c0 f0 hs0
      simp only [List.set] at hs0
      replace q1 := q1.apart (Unch.set (F := fun a => a = ⟨g, off + k * 3, none⟩) rfl (.int .i64 (((c : Nat) : Int)))) (fun a ha e => (HCL.out 0 (by decide)).2 (e ▸ ha))
      obtain ⟨c1', hc1⟩ : ∃ q, c + 1 + cntRow rFoot x.Feet = q := ⟨_, rfl⟩
      have HM1 := Lib.hid (markFootS_any v1 x.Feet (((c : Nat) : Int) + 1) (c + 1) (by omega) base Fk _ (fun a ha => HFB.out a (HFK.out a ha)) (by omega) (by omega) q1)
      rw [hc1] at HM1
      have c1 := hs0.cell 1 rfl
      have HEL1 := Lib.hid hs0
      clear hel q1 hs0
      go_wp2_with fail
      refine HM1.out.mono ?_
      rintro e w1 ⟨rfl, qq1, hu1, hb1⟩
      have hm1 := HEL1.out.call hu1 (fun j hj => (HCL.out j hj).2) (fun a ha => Nat.lt_of_lt_of_le (HFS.out a ha) (Nat.le_trans HUN.out.size (by simp [World.setCell])))
      clear c0 f0 c1
      have c2 := hm1.cell 2 rfl
      have f2 := hm1.free 2 (by decide)
      have hs2 := hm1.set 2 (by decide) (.int .i64 (((c1' : Nat) : Int)))
      simp only [List.set] at hs2
      have HUE := Lib.hid (((HUN.out.trans (Unch.set (p := ⟨g, off + k * 3, none⟩) (HCL.out 0 (by decide)).1 (.int .i64 (((c : Nat) : Int))))).trans (hu1.mono HFK.out)).trans (Unch.set (p := ⟨g, off + k * 3 + 2, none⟩) (HCL.out 2 (by decide)).1 (.int .i64 (((c1' : Nat) : Int)))))
      have HBB := Lib.hid (((HBE.out.setCell (p := ⟨g, off + k * 3, none⟩) (HFB.out _ (HCL.out 0 (by decide)).1) (.int .i64 (((c : Nat) : Int)))).trans hb1).setCell (p := ⟨g, off + k * 3 + 2, none⟩) (HFB.out _ (HCL.out 2 (by decide)).1) (.int .i64 (((c1' : Nat) : Int))))
      have HEE := Lib.hid hs2
      have HQ1 := Lib.hid qq1
      replace HQ1 := Lib.hid (HQ1.out.apart (Unch.set (F := fun a => a = ⟨g, off + k * 3 + 2, none⟩) rfl (.int .i64 (((c1' : Nat) : Int)))) (fun a ha e => (HCL.out 2 (by decide)).2 (e ▸ ha)))
      clear hs2 hm1 hu1 hb1 qq1
      go_wp2
      go_roundw
      case rel =>
        subst hc1
        refine ⟨k + 1, by omega, by go_num, ?_, ?_, HUE.out, HBB.out⟩
        · have e1 := HCS.out
          have e2 := HC.out
          congr 1
          omega
        · rw [← HLS.out]
          exact (HPUT.out _ _ (rFooting.lab c x) Fk HEE.out (rFooting_mk (x := rFooting.lab c x) (by unfold I64; rw [rFooting_lab]; simp only; omega) HQ1.out (by unfold I64; rw [rFooting_lab]; simp only; omega)) (fun a h => Or.inl h)).mono (fun a h => h.elim id (HFK.out a))
      case measure => simp [intOf]; omega
    · obtain rfl : k = n := by omega
      rw [HEND.out.1] at hrow
      have HR := Lib.hid (hrow.mono HG.out)
      have HCN := Lib.hid HEND.out.2
      clear hrow
      go_wp2
      go_ret
      exact ⟨ret_i64 (by rw [HCN.out]), HR.out, HUN.out.mono HG.out, HBE.out⟩
end Go.Proofs.Ytifmcbhgoncgjaa
