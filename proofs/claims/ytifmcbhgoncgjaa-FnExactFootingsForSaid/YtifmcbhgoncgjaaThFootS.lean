/- The laws' heldFootS. -/
import Derived.Test.YtifmcbhgoncgjaaTrFoot
import Derived.WalkKit
import Derived.BigQuiet
import Derived.Lib.QuietBelow
import Derived.Test.YtifmcbhgoncgjaaRows
import Derived.Test.YtifmcbhgoncgjaaRet
namespace Go.Proofs.Ytifmcbhgoncgjaa
open Go.RowKit Go.Sort
set_option linter.unusedVariables false
set_option linter.unusedSimpArgs false

set_option maxHeartbeats 1000000 in
theorem heldFootS_any (v : Value) (l : List DFoot) (z : Int) (k0 : Nat) (hz : z = (k0 : Int)) (F : Addr → Prop) (w : World) (hk : k0 + cntRow rFoot l ≤ 1000000000) (h1k : 1 ≤ k0) (hv : RowRd rFoot false w v (labRow rFoot k0 l) F) :
    Calls Try.prog 42 #[v, .int .i64 z] w fun e w' => e = .returned (.int .i64 ((k0 + cntRow rFoot l : Nat) : Int)) ∧ Below w.heap.size w w' := by
  subst hz
  have hmx := hv.max
  rw [labRow_len] at hmx
  obtain ⟨A, cap, rfl⟩ := hv.form
  rw [labRow_len]
  rw [labRow_len] at hv
  have HV := Lib.hid hv
  clear hv
  have HX : Hid (∀ k, k < l.length → ∃ x, l[k]? = some x) := fun k hk => ⟨_, List.getElem?_eq_getElem hk⟩
  have HEND : Hid (cntTo rFoot l l.length = cntRow rFoot l) := cntTo_all _ _
  have HLE := Lib.hid (cntTo_le rFoot l)
  have H00 : Hid (cntTo rFoot l 0 = 0) := rfl
  generalize hll : l.length = n at *
  clear hll
  generalize cntRow rFoot l = cr at *
  go_enter Try.func42, Try.ntmps42
  go_wp2
  go_loopw [1, 5] (fun q i wr => ∃ (k : Nat), k ≤ n ∧ i = .int .i64 k ∧ q = .int .i64 ((k0 + cntTo rFoot l k : Nat) : Int) ∧ Below w.heap.size w wr) (fun _ i _ => n - (intOf i).toNat)
  case atStart => exact ⟨0, by omega, rfl, by rw [H00.out]; rfl, Below.refl _ _⟩
  case round =>
    obtain ⟨k, hk, rfl, rfl, hbe⟩ := hrel
    have HBE := Lib.hid hbe
    clear hbe
    by_cases hkl : k < n
    · obtain ⟨x, hx⟩ := HX.out k hkl
      have hcs := cntTo_step rFoot l k hx
      have hle := HLE.out (k + 1)
      obtain ⟨g, off, xs, Fk, rfl, _, hrd, _, hc⟩ := (HV.out.kept HBE.out).get (labRow_at rFoot k0 l k hx)
      rw [show rFoot.size = 3 from rfl] at hc
      rw [rFoot_cnt] at hcs
      have HCS := Lib.hid hcs
      have hcb0 : k0 + cntTo rFoot l k + (1 + (1 + (1))) ≤ 1000000000 := by omega
      clear hcs
      generalize hcc : k0 + cntTo rFoot l k = c at *
      have hcb : c + 1 ≤ 1000000001 := by omega
      have HC := Lib.hid hcc
      clear hcc
      obtain ⟨rfl, _, _, _⟩ := rFoot_rd hrd
      clear hrd hx
      have c0 : wr.cell? ⟨g, off + k * 3, none⟩ = some (.int .i64 (((c : Nat) : Int))) := hc 0 _ rfl
      have c1 : wr.cell? ⟨g, off + k * 3 + 1, none⟩ = some (.int .i64 (((c : Nat) : Int) + 1)) := hc 1 _ rfl
      have c2 : wr.cell? ⟨g, off + k * 3 + 2, none⟩ = some (.int .i64 (((c : Nat) : Int) + 1 + 1)) := hc 2 _ rfl
      have HBB := Lib.hid HBE.out
      clear hc
      go_wp2
      go_roundw
      case rel =>
        refine ⟨k + 1, by omega, by go_num, ?_, HBB.out⟩
        have e1 := HCS.out
        have e2 := HC.out
        congr 1
        omega
      case measure => simp [intOf]; omega
    · obtain rfl : k = n := by omega
      have HCN := Lib.hid HEND.out
      go_wp2
      go_ret
      exact ⟨ret_i64 (by rw [HCN.out]), HBE.out⟩
end Go.Proofs.Ytifmcbhgoncgjaa
