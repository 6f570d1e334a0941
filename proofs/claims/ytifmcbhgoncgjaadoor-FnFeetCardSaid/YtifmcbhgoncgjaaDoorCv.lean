/- The conversion of a block of one byte to a text. -/
import Derived.Test.YtifmcbhgoncgjaaDoorRow
namespace Go.Proofs.YtifmcbhgoncgjaaDoor
open Go.RowKit M

/-- 'string([]byte{b})': the conversion of a new block of one byte. -/
theorem conv_one (w : World) (u : Int) :
    (convert 22 9 (.slice (some ⟨w.heap.size, 0, none⟩) 1 1)).run Tryd.prog (w.alloc (.cells #[.int .u8 u] 5)) = .ok (.string ⟨#[UInt8.ofNat u.toNat]⟩) (w.alloc (.cells #[.int .u8 u] 5)) := by
  rw [run_convert_bytes_string _ 22 9 5 _ _ _ Tryd.underlying22 Tryd.underlying5 Tryd.underlying9]
  rw [run_bytesToString _ _ 1 1 [u]]
  · rfl
  · have := run_loadCells_list (P := Tryd.prog) (w.alloc (.cells #[.int .u8 u] 5)) ⟨w.heap.size, 0, none⟩ [.int .u8 u] (cell_one_new _ _ _)
    simpa using this

end Go.Proofs.YtifmcbhgoncgjaaDoor
