/- The laws' szStringS. -/
import Derived.Test.YtnildbalaedlgaaDoorRp
import Derived.Test.YtnildbalaedlgaaDoorLk
import Derived.WalkKit
import Derived.BigQuiet
import Derived.Test.YtnildbalaedlgaaDoorRows
import Derived.Test.YtnildbalaedlgaaDoorRet
namespace Go.Proofs.YtnildbalaedlgaaDoor
set_option maxRecDepth 100000
open Go.RowKit Go.Sort M
set_option linter.unusedVariables false
set_option linter.unusedSimpArgs false

def szTo (l : List ByteArray) (k : Nat) : Nat := l.length + ((l.take k).map (·.size)).sum
theorem szTo_zero (l : List ByteArray) : szTo l 0 = l.length := by simp [szTo]
theorem szTo_step {l : List ByteArray} {k : Nat} {x : ByteArray} (h : l[k]? = some x) : szTo l (k + 1) = szTo l k + x.size := by
  unfold szTo
  rw [List.take_add_one, h]
  simp
  omega
theorem szTo_all (l : List ByteArray) : szTo l l.length = szRow (Rep.str mkT) l := by
  unfold szTo szRow
  rw [List.take_length]
  rfl
set_option maxHeartbeats 1000000 in
theorem szStringS_any (v : Value) (l : List ByteArray) (left : Int) (F : Addr → Prop) (w : World) (h0 : 0 ≤ left) (h1 : left ≤ 1048576) (hv : RowRd (Rep.str mkT) false w v l F) :
    Calls Tryd.prog 5 #[v, .int .i64 left] w fun e w' => (∃ z : Int, e = .returned (.int .i64 z) ∧ (z < 0 ∨ z + (szRow (Rep.str mkT) l : Nat) = left ∧ 0 ≤ z)) ∧ Below w.heap.size w w' := by
  have hmx := hv.max
  obtain ⟨A, cap, rfl⟩ := hv.form
  have HV := Lib.hid hv
  clear hv
  have HX : Hid (∀ k, k < l.length → ∃ y, l[k]? = some y) := fun k hk => ⟨_, List.getElem?_eq_getElem hk⟩
  have HS : Hid (szTo l l.length = szRow (Rep.str mkT) l) := szTo_all l
  have H0 : Hid (szTo l 0 = l.length) := szTo_zero l
  have HST : Hid (∀ k x, l[k]? = some x → szTo l (k + 1) = szTo l k + x.size) := fun k x h => szTo_step h
  go_enter Tryd.func5, Tryd.ntmps5
  by_cases h : left - (l.length : Int) < 0
  · go_wp2
    go_ret
    exact ⟨⟨-1, rfl, Or.inl (by omega)⟩, Below.refl _ _⟩
  · go_wp2
    go_loop [1, 5] (fun q i => ∃ (k : Nat) (z : Int), k ≤ l.length ∧ i = .int .i64 k ∧ q = .int .i64 z ∧ 0 ≤ z ∧ z ≤ 1048576 ∧ Hid (z + (szTo l k : Nat) = left)) (fun _ i => l.length - (intOf i).toNat)
    case atStart => exact ⟨0, _, by omega, rfl, rfl, by omega, by omega, by unfold Hid; rw [H0.out]; omega⟩
    case round =>
      obtain ⟨k, z, hk, rfl, rfl, hz0, hz1, hs⟩ := hrel
      by_cases hkl : k < l.length
      · obtain ⟨y, hy⟩ := HX.out k hkl
        have HSY := Lib.hid (HST.out k y hy)
        obtain ⟨g, off, xs, Fk, rfl, _, hra, _, hca⟩ := HV.out.get hy
        obtain ⟨rfl, hys⟩ := hra
        rw [show (Rep.str mkT).size = 1 from rfl] at hca
        have c0 := hca 0 _ rfl
        simp only [Nat.add_zero, Nat.mul_one] at c0
        clear hca hy
        by_cases hneg : z - (y.size : Int) < 0
        · go_wp2
          go_ret
          exact ⟨⟨-1, rfl, Or.inl (by omega)⟩, Below.refl _ _⟩
        · go_wp2
          go_round
          case rel => exact ⟨k + 1, z - (y.size : Int), by omega, by first | rfl | go_num, by first | rfl | go_num, by omega, by omega, by unfold Hid; rw [HSY.out]; have := hs.out; omega⟩
          case measure => simp [intOf]; omega
      · obtain rfl : k = l.length := by omega
        go_wp2
        go_ret
        exact ⟨⟨z, rfl, Or.inr ⟨by rw [← HS.out]; exact hs.out, hz0⟩⟩, Below.refl _ _⟩
end Go.Proofs.YtnildbalaedlgaaDoor
