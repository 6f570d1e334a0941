/- The laws' markStringS. -/
import Derived.Test.YtnildbalaedlgaaDoorRp
import Derived.Test.YtnildbalaedlgaaDoorLk
import Derived.WalkKit
import Derived.BigQuiet
import Derived.Lib.QuietBelow
import Derived.Test.YtnildbalaedlgaaDoorRows
import Derived.Test.YtnildbalaedlgaaDoorRet
namespace Go.Proofs.YtnildbalaedlgaaDoor
set_option maxRecDepth 100000
open Go.RowKit Go.Sort M
set_option linter.unusedVariables false
set_option linter.unusedSimpArgs false

theorem mkD_len : ∀ (f c : Nat) (out : List UInt8), (mkD f c out).length ≤ f + out.length
  | 0, _, out => by unfold mkD; omega
  | f + 1, c, out => by
    unfold mkD
    split
    · omega
    · have := mkD_len f (c / 10) (byt ((48 + c % 10 : Nat) : Int) :: out)
      simp only [List.length_cons] at this
      omega
theorem mkT_size (k : Nat) : (mkT k).size ≤ 9223372036854775807 := by
  have := mkD_len 20 k []
  have h2 : (mkT k).size = (mkD 20 k []).length + 1 := rfl
  simp only [List.length_nil] at this
  omega
set_option maxHeartbeats 2000000 in
theorem markStrs_any (v : Value) (l : List ByteArray) (z : Int) (k0 : Nat) (hz : z = (k0 : Int)) (base : Nat) (F0 : Addr → Prop) (w : World) (hF0 : ∀ a, F0 a → base ≤ a.block) (hk : k0 + cntRow (Rep.str mkT) l ≤ 1000000000) (h1k : 1 ≤ k0) (hbase : base ≤ w.heap.size) (hv0 : RowRd (Rep.str mkT) true w v l F0) :
    Calls Tryd.prog 11 #[v, .int .i64 z] w fun e w' => e = .returned (.int .i64 ((k0 + cntRow (Rep.str mkT) l : Nat) : Int)) ∧ RowRd (Rep.str mkT) true w' v (labRow (Rep.str mkT) k0 l) F0 ∧ Unch F0 w w' ∧ Below base w w' := by
  subst hz
  have hv := hv0.tight
  have HG : Hid (∀ a, (F0 a ∧ a.block < w.heap.size) → F0 a) := fun _ h => h.1
  have HFS : Hid (∀ a, (F0 a ∧ a.block < w.heap.size) → a.block < w.heap.size) := fun _ h => h.2
  have HFB : Hid (∀ a, (F0 a ∧ a.block < w.heap.size) → base ≤ a.block) := fun a h => hF0 a h.1
  generalize hF : (fun a => F0 a ∧ a.block < w.heap.size) = F at hv
  have HG : Hid (∀ a, F a → F0 a) := by subst hF; exact HG
  have HFS : Hid (∀ a, F a → a.block < w.heap.size) := by subst hF; exact HFS
  have HFB : Hid (∀ a, F a → base ≤ a.block) := by subst hF; exact HFB
  clear hF hF0
  have hmx := hv.max
  have HMX := Lib.hid hmx
  obtain ⟨A, cap, rfl⟩ := hv.form
  have HV := Lib.hid hv
  clear hv hv0
  have HX : Hid (∀ k, k < l.length → ∃ x, l[k]? = some x) := fun k hk => ⟨_, List.getElem?_eq_getElem hk⟩
  have HEND : Hid (labTo (Rep.str mkT) k0 l l.length = labRow (Rep.str mkT) k0 l ∧ cntTo (Rep.str mkT) l l.length = cntRow (Rep.str mkT) l) := ⟨labTo_all _ _ _, cntTo_all _ _⟩
  have HLE := Lib.hid (cntTo_le (Rep.str mkT) l)
  have H0 := Lib.hid (labTo_zero (Rep.str mkT) k0 l)
  have H00 : Hid (cntTo (Rep.str mkT) l 0 = 0) := rfl
  generalize hll : l.length = n at *
  clear hll
  generalize cntRow (Rep.str mkT) l = cr at *
  go_enter Tryd.func11, Tryd.ntmps11
  go_wp2
  go_loopw [1, 5] (fun q i wr => ∃ (k : Nat), k ≤ n ∧ i = .int .i64 k ∧ q = .int .i64 ((k0 + cntTo (Rep.str mkT) l k : Nat) : Int) ∧ RowRd (Rep.str mkT) true wr (.slice A n cap) (labTo (Rep.str mkT) k0 l k) F ∧ Unch F w wr ∧ Below base w wr) (fun _ i _ => n - (intOf i).toNat)
  case atStart => exact ⟨0, by omega, rfl, by rw [H00.out]; rfl, by rw [H0.out]; exact HV.out, Unch.refl _ _, Below.refl _ _⟩
  case round =>
    obtain ⟨k, hk, rfl, rfl, hrow, hun, hbe⟩ := hrel
    have HUN := Lib.hid hun
    have HBE := Lib.hid hbe
    clear hun hbe
    by_cases hkl : k < n
    · obtain ⟨x, hx⟩ := HX.out k hkl
      have hcs := cntTo_step (Rep.str mkT) l k hx
      have hle := HLE.out (k + 1)
      have HLS := Lib.hid (labTo_step (Rep.str mkT) k0 l k hx)
      have hx1 : (Rep.str mkT).cnt x = 1 := rfl
      rw [hx1] at hcs
      have HLT := Lib.hid (labTo_at (Rep.str mkT) k0 l k hx)
      have HROW := Lib.hid hrow
      have hcb0 : k0 + cntTo (Rep.str mkT) l k + 1 ≤ 1000000000 := by omega
      have HCS := Lib.hid hcs
      clear hrow hcs
      generalize hc : k0 + cntTo (Rep.str mkT) l k = c at *
      have HC := Lib.hid hc
      clear hc
      go_wp2_with fail
      refine (markText_any c _ (by have := HC.out; omega) (by omega)).mono ?_
      rintro e w1 ⟨rfl, hb1⟩
      have hrow1 := HROW.out.kept hb1
      have HUN1 := Lib.hid (HUN.out.trans (Unch.below hb1))
      have HBE1 := Lib.hid (HBE.out.trans (hb1.mono (Nat.le_trans hbase HBE.out.size)))
      clear hb1
      obtain ⟨g, off, xs, Fk, rfl, hrd, hel, hFk, hcl, hput⟩ := hrow1.open HLT.out
      simp only [show (Rep.str mkT).size = 1 from rfl, Nat.mul_one] at hel hcl hput
      have HCL := Lib.hid hcl
      have HFK := Lib.hid hFk
      have HPUT := Lib.hid hput
      clear hrow1 hcl hFk hput
      obtain ⟨rfl, _⟩ := id hrd
      clear hrd
      have c0 := hel.cell 0 rfl
      have f0 := hel.free 0 (by decide)
      have hs0 := hel.set 0 (by decide) (.string (mkT c))
      simp only [Nat.add_zero] at c0 f0 hs0
      simp only [List.set] at hs0
      have HUE := Lib.hid (HUN1.out.trans (Unch.set (p := ⟨g, off + k, none⟩) (HCL.out 0 (by decide)).1 (.string (mkT c))))
      have HBB := Lib.hid (HBE1.out.setCell (p := ⟨g, off + k, none⟩) (HFB.out _ (HCL.out 0 (by decide)).1) (.string (mkT c)))
      have HEE := Lib.hid hs0
      have HMT := Lib.hid (mkT_size c)
      have hcb : c + 1 ≤ 1000000001 := by omega
      clear hs0 hel
      go_wp2
      go_roundw
      case rel =>
        refine ⟨k + 1, by omega, by go_num, ?_, ?_, HUE.out, HBB.out⟩
        · have e1 := HCS.out
          have e2 := HC.out
          congr 1
          omega
        · rw [← HLS.out]
          exact (HPUT.out _ _ ((Rep.str mkT).lab c x) Fk HEE.out ⟨rfl, HMT.out⟩ (fun a h => Or.inl h)).mono (fun a h => h.elim id (HFK.out a))
      case measure => simp [intOf]; omega
    · obtain rfl : k = n := by omega
      rw [HEND.out.1] at hrow
      have HR := Lib.hid (hrow.mono HG.out)
      have HCN := Lib.hid HEND.out.2
      clear hrow
      go_wp2
      go_ret
      exact ⟨ret_i64 (by rw [HCN.out]), HR.out, HUN.out.mono HG.out, HBE.out⟩
end Go.Proofs.YtnildbalaedlgaaDoor
