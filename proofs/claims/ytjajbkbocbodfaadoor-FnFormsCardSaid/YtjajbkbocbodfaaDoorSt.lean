/- The laws' sameTexts: equal rows are equal. -/
import Derived.Test.YtjajbkbocbodfaaDoorAppS
import Derived.Test.YtjajbkbocbodfaaDoorLk
namespace Go.Proofs.YtjajbkbocbodfaaDoor
open Go.RowKit Go.Sort M

theorem sameTexts_any (u v : Value) (b1 b2 : Nat) (l : List ByteArray) (w : World) (hn : l.length ≤ 1000000000) (hu : w.ownsRow b1 9 1 u l.length (cellsS l)) (hv : w.ownsRow b2 9 1 v l.length (cellsS l)) :
    Calls Tryd.prog 10 #[u, v] w fun e w' => e = .returned (.bool true) ∧ Below w.heap.size w w' := by
  obtain ⟨A, c1, rfl, hA⟩ := str_read hu
  obtain ⟨B, c2, rfl, hB⟩ := str_read hv
  have HA := Lib.hid hA
  have HB := Lib.hid hB
  clear hA hB hu hv
  generalize l.length = n at *
  go_enter Tryd.func10, Tryd.ntmps10
  go_wp2
  go_loopw [5] (fun i wr => ∃ (k : Nat), k ≤ n ∧ i = .int .i64 k ∧ Below w.heap.size w wr) (fun i _ => n - (intOf i).toNat)
  case atStart => exact ⟨0, by omega, rfl, Below.refl _ _⟩
  case round =>
    obtain ⟨k, hk, rfl, hb⟩ := hrel
    by_cases hkl : k < n
    · obtain ⟨g, rfl, hg⟩ := HA.out k hkl
      obtain ⟨h, rfl, hh⟩ := HB.out k hkl
      have hg1 := cell_kept hb hg
      have hh1 := cell_kept hb hh
      have HBE := Lib.hid hb
      clear hg hh hb
      generalize l.getD k ByteArray.empty = t at hg1 hh1
      go_wp2
      go_quiet (fail)
      go_wp2
      go_roundw
      case rel => exact ⟨k + 1, by omega, by go_num, below_drewN HBE.out _⟩
      case measure => simp [intOf]; omega
    · obtain rfl : k = n := by omega
      go_wp2
      go_ret
      exact ⟨rfl, hb⟩
end Go.Proofs.YtjajbkbocbodfaaDoor
