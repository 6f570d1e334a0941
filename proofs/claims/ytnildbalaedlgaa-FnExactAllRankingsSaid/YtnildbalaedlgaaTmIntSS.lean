/- The laws' markIntSS. -/
import Derived.Test.YtnildbalaedlgaaRp
import Derived.Test.YtnildbalaedlgaaTmIntS
import Derived.WalkKit
import Derived.BigQuiet
import Derived.Lib.QuietBelow
import Derived.Test.YtnildbalaedlgaaRows
import Derived.Test.YtnildbalaedlgaaRet
namespace Go.Proofs.Ytnildbalaedlgaa
set_option maxRecDepth 100000
open Go.RowKit Go.Sort
set_option linter.unusedVariables false
set_option linter.unusedSimpArgs false

set_option maxHeartbeats 2000000 in
theorem markIntSS_any (v : Value) (l : List (List Int)) (z : Int) (k0 : Nat) (hz : z = (k0 : Int)) (base : Nat) (F0 : Addr → Prop) (w : World) (hF0 : ∀ a, F0 a → base ≤ a.block) (hk : k0 + cntRow (Rep.row Rep.int) l ≤ 1000000000) (h1k : 1 ≤ k0) (hv0 : RowRd (Rep.row Rep.int) true w v l F0) :
    Calls Try.prog 18 #[v, .int .i64 z] w fun e w' => e = .returned (.int .i64 ((k0 + cntRow (Rep.row Rep.int) l : Nat) : Int)) ∧ RowRd (Rep.row Rep.int) true w' v (labRow (Rep.row Rep.int) k0 l) F0 ∧ Unch F0 w w' ∧ Below base w w' := by
  subst hz
  have hv := hv0.tight
  have HG : Hid (∀ a, (F0 a ∧ a.block < w.heap.size) → F0 a) := fun _ h => h.1
  have HFS : Hid (∀ a, (F0 a ∧ a.block < w.heap.size) → a.block < w.heap.size) := fun _ h => h.2
  have HFB : Hid (∀ a, (F0 a ∧ a.block < w.heap.size) → base ≤ a.block) := fun a h => hF0 a h.1
  generalize hF : (fun a => F0 a ∧ a.block < w.heap.size) = F at hv
  have HG : Hid (∀ a, F a → F0 a) := by subst hF; exact HG
  have HFS : Hid (∀ a, F a → a.block < w.heap.size) := by subst hF; exact HFS
  have HFB : Hid (∀ a, F a → base ≤ a.block) := by subst hF; exact HFB
  clear hF hF0
  have hmx := hv.max
  have HMX := Lib.hid hmx
  obtain ⟨A, cap, rfl⟩ := hv.form
  have HV := Lib.hid hv
  clear hv hv0
  have HX : Hid (∀ k, k < l.length → ∃ x, l[k]? = some x) := fun k hk => ⟨_, List.getElem?_eq_getElem hk⟩
  have HEND : Hid (labTo (Rep.row Rep.int) k0 l l.length = labRow (Rep.row Rep.int) k0 l ∧ cntTo (Rep.row Rep.int) l l.length = cntRow (Rep.row Rep.int) l) := ⟨labTo_all _ _ _, cntTo_all _ _⟩
  have HLE := Lib.hid (cntTo_le (Rep.row Rep.int) l)
  have H0 := Lib.hid (labTo_zero (Rep.row Rep.int) k0 l)
  have H00 : Hid (cntTo (Rep.row Rep.int) l 0 = 0) := rfl
  generalize hll : l.length = n at *
  clear hll
  generalize cntRow (Rep.row Rep.int) l = cr at *
  go_enter Try.func18, Try.ntmps18
  go_wp2
  go_loopw [1, 5] (fun q i wr => ∃ (k : Nat), k ≤ n ∧ i = .int .i64 k ∧ q = .int .i64 ((k0 + cntTo (Rep.row Rep.int) l k : Nat) : Int) ∧ RowRd (Rep.row Rep.int) true wr (.slice A n cap) (labTo (Rep.row Rep.int) k0 l k) F ∧ Unch F w wr ∧ Below base w wr) (fun _ i _ => n - (intOf i).toNat)
  case atStart => exact ⟨0, by omega, rfl, by rw [H00.out]; rfl, by rw [H0.out]; exact HV.out, Unch.refl _ _, Below.refl _ _⟩
  case round =>
    obtain ⟨k, hk, rfl, rfl, hrow, hun, hbe⟩ := hrel
    have HUN := Lib.hid hun
    have HBE := Lib.hid hbe
    clear hun hbe
    by_cases hkl : k < n
    · obtain ⟨x, hx⟩ := HX.out k hkl
      have hcs := cntTo_step (Rep.row Rep.int) l k hx
      have hle := HLE.out (k + 1)
      have HLS := Lib.hid (labTo_step (Rep.row Rep.int) k0 l k hx)
      obtain ⟨g, off, xs, Fk, rfl, hrd, hel, hFk, hcl, hput⟩ := hrow.open (labTo_at (Rep.row Rep.int) k0 l k hx)
      simp only [show (Rep.row Rep.int).size = 1 from rfl, Nat.mul_one] at hel hcl hput
      rw [show (Rep.row Rep.int).cnt x = cntRow Rep.int x from rfl] at hcs
      have HCL := Lib.hid hcl
      have HFK := Lib.hid hFk
      have HPUT := Lib.hid hput
      have HCS := Lib.hid hcs
      have hcb0 : k0 + cntTo (Rep.row Rep.int) l k + (cntRow Rep.int x) ≤ 1000000000 := by omega
      clear hrow hcl hFk hput hcs
      generalize hc : k0 + cntTo (Rep.row Rep.int) l k = c at *
      have hc1 : 1 ≤ c := by omega
      have hcb : c + 1 ≤ 1000000001 := by omega
      have HC := Lib.hid hc
      clear hc
      obtain ⟨v0, rfl, q0⟩ := id hrd
      clear hrd
      obtain ⟨c0', hc0⟩ : ∃ q, c + 0 + cntRow Rep.int x = q := ⟨_, rfl⟩
      have HM0 := Lib.hid (markIntS_any v0 x (((c : Nat) : Int)) (c + 0) (by omega) base Fk _ (fun a ha => HFB.out a (HFK.out a ha)) (by omega) (by omega) q0)
      rw [hc0] at HM0
      have c0 := hel.cell 0 rfl
      simp only [Nat.add_zero, Nat.mul_one] at c0
      have HEL0 := Lib.hid hel
      clear hel q0
      go_wp2_with fail
      refine HM0.out.mono ?_
      rintro e w0 ⟨rfl, qq0, hu0, hb0⟩
      have hm0 := HEL0.out.call hu0 (fun j hj => (HCL.out j hj).2) (fun a ha => Nat.lt_of_lt_of_le (HFS.out a ha) (Nat.le_trans HUN.out.size (by simp [World.setCell])))
      clear c0
      have HUE := Lib.hid (HUN.out.trans (hu0.mono HFK.out))
      have HBB := Lib.hid (HBE.out.trans hb0)
      have HEE := Lib.hid hm0
      have HQ0 := Lib.hid qq0
      clear hm0 hu0 hb0 qq0
      go_wp2
      go_roundw
      case rel =>
        subst hc0
        refine ⟨k + 1, by omega, by go_num, ?_, ?_, HUE.out, HBB.out⟩
        · have e1 := HCS.out
          have e2 := HC.out
          congr 1
          omega
        · rw [← HLS.out]
          exact (HPUT.out _ _ ((Rep.row Rep.int).lab c x) Fk HEE.out ⟨v0, rfl, HQ0.out⟩ (fun a h => Or.inl h)).mono (fun a h => h.elim id (HFK.out a))
      case measure => simp [intOf]; omega
    · obtain rfl : k = n := by omega
      rw [HEND.out.1] at hrow
      have HR := Lib.hid (hrow.mono HG.out)
      have HCN := Lib.hid HEND.out.2
      clear hrow
      go_wp2
      go_ret
      exact ⟨ret_i64 (by rw [HCN.out]), HR.out, HUN.out.mono HG.out, HBE.out⟩
end Go.Proofs.Ytnildbalaedlgaa
