/- The conversion of a block of one byte to a text. -/
import Derived.Test.YtlekcnddejnejaaRow
namespace Go.Proofs.Ytlekcnddejnejaa
open Go.RowKit M

/-- 'string([]byte{b})': the conversion of a new block of one byte. -/
theorem conv_one (w : World) (u : Int) :
    (convert 58 9 (.slice (some ⟨w.heap.size, 0, none⟩) 1 1)).run Try.prog (w.alloc (.cells #[.int .u8 u] 5)) = .ok (.string ⟨#[UInt8.ofNat u.toNat]⟩) (w.alloc (.cells #[.int .u8 u] 5)) := by
  rw [run_convert_bytes_string _ 58 9 5 _ _ _ Try.underlying58 Try.underlying5 Try.underlying9]
  rw [run_bytesToString _ _ 1 1 [u]]
  · rfl
  · have := run_loadCells_list (P := Try.prog) (w.alloc (.cells #[.int .u8 u] 5)) ⟨w.heap.size, 0, none⟩ [.int .u8 u] (cell_one_new _ _ _)
    simpa using this

end Go.Proofs.Ytlekcnddejnejaa
