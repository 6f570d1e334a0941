/- The laws' heldLinkS. -/
import Derived.Test.YtfcmhbbeohhjmaaTrLink
import Derived.Test.YtfcmhbbeohhjmaaU8
import Derived.WalkKit
import Derived.BigQuiet
import Derived.Lib.QuietBelow
import Derived.Test.YtfcmhbbeohhjmaaRows
import Derived.Test.YtfcmhbbeohhjmaaRet
namespace Go.Proofs.Ytfcmhbbeohhjmaa
set_option maxRecDepth 100000
open Go.RowKit Go.Sort
set_option linter.unusedVariables false
set_option linter.unusedSimpArgs false

set_option maxHeartbeats 1000000 in
theorem heldLinkS_any (v : Value) (l : List DLink) (z : Int) (k0 : Nat) (hz : z = (k0 : Int)) (F : Addr → Prop) (w : World) (hk : k0 + cntRow rLink l ≤ 1000000000) (h1k : 1 ≤ k0) (hv : RowRd rLink false w v (labRow rLink k0 l) F) :
    Calls Try.prog 46 #[v, .int .i64 z] w fun e w' => e = .returned (.int .i64 ((k0 + cntRow rLink l : Nat) : Int)) ∧ Below w.heap.size w w' := by
  subst hz
  have hmx := hv.max
  rw [labRow_len] at hmx
  obtain ⟨A, cap, rfl⟩ := hv.form
  rw [labRow_len]
  rw [labRow_len] at hv
  have HV := Lib.hid hv
  clear hv
  have HX : Hid (∀ k, k < l.length → ∃ x, l[k]? = some x) := fun k hk => ⟨_, List.getElem?_eq_getElem hk⟩
  have HEND : Hid (cntTo rLink l l.length = cntRow rLink l) := cntTo_all _ _
  have HLE := Lib.hid (cntTo_le rLink l)
  have H00 : Hid (cntTo rLink l 0 = 0) := rfl
  generalize hll : l.length = n at *
  clear hll
  generalize cntRow rLink l = cr at *
  go_enter Try.func46, Try.ntmps46
  go_wp2
  go_loopw [1, 5] (fun q i wr => ∃ (k : Nat), k ≤ n ∧ i = .int .i64 k ∧ q = .int .i64 ((k0 + cntTo rLink l k : Nat) : Int) ∧ Below w.heap.size w wr) (fun _ i _ => n - (intOf i).toNat)
  case atStart => exact ⟨0, by omega, rfl, by rw [H00.out]; rfl, Below.refl _ _⟩
  case round =>
    obtain ⟨k, hk, rfl, rfl, hbe⟩ := hrel
    have HBE := Lib.hid hbe
    clear hbe
    by_cases hkl : k < n
    · obtain ⟨x, hx⟩ := HX.out k hkl
      have hcs := cntTo_step rLink l k hx
      have hle := HLE.out (k + 1)
      obtain ⟨g, off, xs, Fk, rfl, _, hrd, _, hc⟩ := (HV.out.kept HBE.out).get (labRow_at rLink k0 l k hx)
      rw [show rLink.size = 2 from rfl] at hc
      rw [rLink_cnt] at hcs
      have HCS := Lib.hid hcs
      have hcb0 : k0 + cntTo rLink l k + (1 + (1)) ≤ 1000000000 := by omega
      clear hcs
      generalize hcc : k0 + cntTo rLink l k = c at *
      have hcb : c + 1 ≤ 1000000001 := by omega
      have HC := Lib.hid hcc
      clear hcc
      have eehrd := rLink_rd hrd
      subst eehrd
      clear hrd hx
      have c0 : wr.cell? ⟨g, off + k * 2, none⟩ = some (.int .u8 ((((c : Nat) : Int)) % 256)) := by
        have e := u8_wrap (c)
        try simp only [Int.natCast_add, Int.natCast_one, Int.cast_ofNat_Int] at e
        rw [e]
        exact hc 0 _ rfl
      have c1 : wr.cell? ⟨g, off + k * 2 + 1, none⟩ = some (.int .u8 ((((c : Nat) : Int) + 1) % 256)) := by
        have e := u8_wrap (c + 1)
        try simp only [Int.natCast_add, Int.natCast_one, Int.cast_ofNat_Int] at e
        rw [e]
        exact hc 1 _ rfl
      have HBB := Lib.hid HBE.out
      clear hc
      go_wp2
      go_roundw
      case rel =>
        refine ⟨k + 1, by omega, by go_num, ?_, HBB.out⟩
        have e1 := HCS.out
        have e2 := HC.out
        congr 1
        omega
      case measure => simp [intOf]; omega
    · obtain rfl : k = n := by omega
      have HCN := Lib.hid HEND.out
      go_wp2
      go_ret
      exact ⟨ret_i64 (by rw [HCN.out]), HBE.out⟩
end Go.Proofs.Ytfcmhbbeohhjmaa
