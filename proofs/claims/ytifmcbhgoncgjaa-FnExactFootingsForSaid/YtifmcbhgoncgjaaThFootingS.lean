/- The laws' heldFootingS. -/
import Derived.Test.YtifmcbhgoncgjaaTrFooting
import Derived.Test.YtifmcbhgoncgjaaThFootS
import Derived.WalkKit
import Derived.BigQuiet
import Derived.Lib.QuietBelow
import Derived.Test.YtifmcbhgoncgjaaRows
import Derived.Test.YtifmcbhgoncgjaaRet
namespace Go.Proofs.Ytifmcbhgoncgjaa
open Go.RowKit Go.Sort
set_option linter.unusedVariables false
set_option linter.unusedSimpArgs false

set_option maxHeartbeats 1000000 in
theorem heldFootingS_any (v : Value) (l : List DFooting) (z : Int) (k0 : Nat) (hz : z = (k0 : Int)) (F : Addr → Prop) (w : World) (hk : k0 + cntRow rFooting l ≤ 1000000000) (h1k : 1 ≤ k0) (hv : RowRd rFooting false w v (labRow rFooting k0 l) F) :
    Calls Try.prog 24 #[v, .int .i64 z] w fun e w' => e = .returned (.int .i64 ((k0 + cntRow rFooting l : Nat) : Int)) ∧ Below w.heap.size w w' := by
  subst hz
  have hmx := hv.max
  rw [labRow_len] at hmx
  obtain ⟨A, cap, rfl⟩ := hv.form
  rw [labRow_len]
  rw [labRow_len] at hv
  have HV := Lib.hid hv
  clear hv
  have HX : Hid (∀ k, k < l.length → ∃ x, l[k]? = some x) := fun k hk => ⟨_, List.getElem?_eq_getElem hk⟩
  have HEND : Hid (cntTo rFooting l l.length = cntRow rFooting l) := cntTo_all _ _
  have HLE := Lib.hid (cntTo_le rFooting l)
  have H00 : Hid (cntTo rFooting l 0 = 0) := rfl
  generalize hll : l.length = n at *
  clear hll
  generalize cntRow rFooting l = cr at *
  go_enter Try.func24, Try.ntmps24
  go_wp2
  go_loopw [1, 5] (fun q i wr => ∃ (k : Nat), k ≤ n ∧ i = .int .i64 k ∧ q = .int .i64 ((k0 + cntTo rFooting l k : Nat) : Int) ∧ Below w.heap.size w wr) (fun _ i _ => n - (intOf i).toNat)
  case atStart => exact ⟨0, by omega, rfl, by rw [H00.out]; rfl, Below.refl _ _⟩
  case round =>
    obtain ⟨k, hk, rfl, rfl, hbe⟩ := hrel
    have HBE := Lib.hid hbe
    clear hbe
    by_cases hkl : k < n
    · obtain ⟨x, hx⟩ := HX.out k hkl
      have hcs := cntTo_step rFooting l k hx
      have hle := HLE.out (k + 1)
      obtain ⟨g, off, xs, Fk, rfl, _, hrd, _, hc⟩ := (HV.out.kept HBE.out).get (labRow_at rFooting k0 l k hx)
      rw [show rFooting.size = 3 from rfl] at hc
      rw [rFooting_cnt] at hcs
      have HCS := Lib.hid hcs
      have hcb0 : k0 + cntTo rFooting l k + (1 + (cntRow rFoot x.Feet + (1))) ≤ 1000000000 := by omega
      clear hcs
      generalize hcc : k0 + cntTo rFooting l k = c at *
      have hcb : c + 1 ≤ 1000000001 := by omega
      have HC := Lib.hid hcc
      clear hcc
      obtain ⟨v1, rfl, _, q1, _⟩ := rFooting_rd hrd
      clear hrd hx
      have c0 : wr.cell? ⟨g, off + k * 3, none⟩ = some (.int .i64 (((c : Nat) : Int))) := hc 0 _ rfl
      have c1 : wr.cell? ⟨g, off + k * 3 + 1, none⟩ = some v1 := hc 1 _ rfl
      obtain ⟨c1', hc1⟩ : ∃ q, c + 1 + cntRow rFoot x.Feet = q := ⟨_, rfl⟩
      have HM1 := Lib.hid (heldFootS_any v1 x.Feet (((c : Nat) : Int) + 1) (c + 1) (by omega) Fk wr (by omega) (by omega) q1)
      rw [hc1] at HM1
      have hnn1 : ¬ ((c1' : Nat) : Int) < 0 := by omega
      have HHC := Lib.hid hc
      clear hc q1
      go_wp2_with fail
      refine HM1.out.mono ?_
      rintro e w1 ⟨rfl, hb1⟩
      have hc := HHC.out
      have c2 : w1.cell? ⟨g, off + k * 3 + 2, none⟩ = some (.int .i64 (((c1' : Nat) : Int))) := (hb1.cell (block_lt_of_cell (hc 2 _ rfl))).trans (by rw [hc 2 _ rfl, rFooting_lab]; simp only [hc1])
      have HBB := Lib.hid (HBE.out.trans (hb1.mono HBE.out.size))
      clear hc hb1
      go_wp2
      go_roundw
      case rel =>
        subst hc1
        refine ⟨k + 1, by omega, by go_num, ?_, HBB.out⟩
        have e1 := HCS.out
        have e2 := HC.out
        congr 1
        omega
      case measure => simp [intOf]; omega
    · obtain rfl : k = n := by omega
      have HCN := Lib.hid HEND.out
      go_wp2
      go_ret
      exact ⟨ret_i64 (by rw [HCN.out]), HBE.out⟩
end Go.Proofs.Ytifmcbhgoncgjaa
