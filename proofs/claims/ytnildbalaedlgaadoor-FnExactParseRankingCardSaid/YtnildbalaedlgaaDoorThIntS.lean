/- The laws' heldIntS. -/
import Derived.Test.YtnildbalaedlgaaDoorRp
import Derived.WalkKit
import Derived.BigQuiet
import Derived.Lib.QuietBelow
import Derived.Test.YtnildbalaedlgaaDoorRows
import Derived.Test.YtnildbalaedlgaaDoorRet
namespace Go.Proofs.YtnildbalaedlgaaDoor
set_option maxRecDepth 100000
open Go.RowKit Go.Sort
set_option linter.unusedVariables false
set_option linter.unusedSimpArgs false

set_option maxHeartbeats 1000000 in
theorem heldIntS_any (v : Value) (l : List Int) (z : Int) (k0 : Nat) (hz : z = (k0 : Int)) (F : Addr → Prop) (w : World) (hk : k0 + cntRow Rep.int l ≤ 1000000000) (h1k : 1 ≤ k0) (hv : RowRd Rep.int false w v (labRow Rep.int k0 l) F) :
    Calls Tryd.prog 13 #[v, .int .i64 z] w fun e w' => e = .returned (.int .i64 ((k0 + cntRow Rep.int l : Nat) : Int)) ∧ Below w.heap.size w w' := by
  subst hz
  have hmx := hv.max
  rw [labRow_len] at hmx
  obtain ⟨A, cap, rfl⟩ := hv.form
  rw [labRow_len]
  rw [labRow_len] at hv
  have HV := Lib.hid hv
  clear hv
  have HX : Hid (∀ k, k < l.length → ∃ x, l[k]? = some x) := fun k hk => ⟨_, List.getElem?_eq_getElem hk⟩
  have HEND : Hid (cntTo Rep.int l l.length = cntRow Rep.int l) := cntTo_all _ _
  have HLE := Lib.hid (cntTo_le Rep.int l)
  have H00 : Hid (cntTo Rep.int l 0 = 0) := rfl
  generalize hll : l.length = n at *
  clear hll
  generalize cntRow Rep.int l = cr at *
  go_enter Tryd.func13, Tryd.ntmps13
  go_wp2
  go_loopw [1, 5] (fun q i wr => ∃ (k : Nat), k ≤ n ∧ i = .int .i64 k ∧ q = .int .i64 ((k0 + cntTo Rep.int l k : Nat) : Int) ∧ Below w.heap.size w wr) (fun _ i _ => n - (intOf i).toNat)
  case atStart => exact ⟨0, by omega, rfl, by rw [H00.out]; rfl, Below.refl _ _⟩
  case round =>
    obtain ⟨k, hk, rfl, rfl, hbe⟩ := hrel
    have HBE := Lib.hid hbe
    clear hbe
    by_cases hkl : k < n
    · obtain ⟨x, hx⟩ := HX.out k hkl
      have hcs := cntTo_step Rep.int l k hx
      have hle := HLE.out (k + 1)
      obtain ⟨g, off, xs, Fk, rfl, _, hrd, _, hc⟩ := (HV.out.kept HBE.out).get (labRow_at Rep.int k0 l k hx)
      simp only [show Rep.int.size = 1 from rfl, Nat.mul_one] at hc
      rw [show Rep.int.cnt x = 1 from rfl] at hcs
      have HCS := Lib.hid hcs
      have hcb0 : k0 + cntTo Rep.int l k + (1) ≤ 1000000000 := by omega
      clear hcs
      generalize hcc : k0 + cntTo Rep.int l k = c at *
      have hcb : c + 1 ≤ 1000000001 := by omega
      have HC := Lib.hid hcc
      clear hcc
      obtain ⟨rfl, _⟩ := id hrd
      clear hrd hx
      have c0 : wr.cell? ⟨g, off + k, none⟩ = some (.int .i64 (((c : Nat) : Int))) := hc 0 _ rfl
      have HBB := Lib.hid HBE.out
      clear hc
      go_wp2
      go_roundw
      case rel =>
        refine ⟨k + 1, by omega, by go_num, ?_, HBB.out⟩
        have e1 := HCS.out
        have e2 := HC.out
        congr 1
        omega
      case measure => simp [intOf]; omega
    · obtain rfl : k = n := by omega
      have HCN := Lib.hid HEND.out
      go_wp2
      go_ret
      exact ⟨ret_i64 (by rw [HCN.out]), HBE.out⟩
end Go.Proofs.YtnildbalaedlgaaDoor
