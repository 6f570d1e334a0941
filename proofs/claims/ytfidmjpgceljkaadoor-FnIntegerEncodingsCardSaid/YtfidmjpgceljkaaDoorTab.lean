/- The table of powers of ten, as the rows list it: what the list gives, and that it stands behind a call that keeps what there was. No condition. -/
import Derived.Test.YtfidmjpgceljkaaDoorCards
import Derived.Test.YtfidmjpgceljkaaDoorLib
import Derived.Lib.LaidTab
import Derived.WalkSmall
import Derived.LaidSub
namespace Go.Proofs.YtfidmjpgceljkaaDoor
open Go.RowKit Go.Lib Go.Sort

theorem gTab : Tryd.prog.globalNamed "internal/strconv.uint64pow10" = some 0 := by kernel_rfl
theorem gTabType : (Tryd.prog.globals[0]?).map (·.type) = some 62 := by kernel_rfl
theorem cells62 : Tryd.prog.cellsOf 62 = 20 := by kernel_rfl
theorem cells55 : Tryd.prog.cellsOf 55 = 1 := by kernel_rfl
/-- The table of powers of ten reads as laid. -/
def Tab (W : World) : Prop := Lib.TabIs Tryd.prog W "internal/strconv.uint64pow10" .u64 Lib.pow10Tab
theorem laid_eq : (Rows.laid_internal_strconv_uint64pow10 : DataW Unit) = Lib.tabData .u64 Lib.pow10Tab := by kernel_rfl
theorem tab_of {W : World} (h : laidMet Tryd.prog [("math/bits.deBruijn32tab", Rows.laid_math_bits_deBruijn32tab), ("math/bits.deBruijn64tab", Rows.laid_math_bits_deBruijn64tab), ("internal/strconv.uint64pow10", Rows.laid_internal_strconv_uint64pow10)] W) : Tab W := by
  have h3 := h.filter fun x => x.1 == "internal/strconv.uint64pow10"
  rw [show ([("math/bits.deBruijn32tab", Rows.laid_math_bits_deBruijn32tab), ("math/bits.deBruijn64tab", Rows.laid_math_bits_deBruijn64tab), ("internal/strconv.uint64pow10", Rows.laid_internal_strconv_uint64pow10)] : List (String × DataW Unit)).filter (fun x => x.1 == "internal/strconv.uint64pow10") = [("internal/strconv.uint64pow10", Rows.laid_internal_strconv_uint64pow10)] by rfl, laid_eq] at h3
  exact Lib.tabIs_of_head (rest := []) gTab gTabType Tryd.underlying62 Tryd.underlying55 cells55 cells62 h3
theorem tab_pos {W : World} (h : Tab W) : 0 < W.heap.size := by
  have := Lib.TabIs.cell (show Lib.TabIs _ _ _ _ _ from h) gTab 0 (by decide)
  exact block_lt_of_cell this
theorem tab_below {W W' : World} (h : Tab W) (hb : Below W.heap.size W W') : Tab W' := var?_below hb gTab (tab_pos h) h
end Go.Proofs.YtfidmjpgceljkaaDoor
