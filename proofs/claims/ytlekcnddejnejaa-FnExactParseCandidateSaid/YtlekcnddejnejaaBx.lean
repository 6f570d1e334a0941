/- A struct's box; the marks of links. -/
import Derived.Test.YtlekcnddejnejaaIk3
namespace Go.Proofs.Ytlekcnddejnejaa
open Go.RowKit
def BoxC (w : World) (g : Nat) (v : Value) : Prop := w.cell? ⟨g, 0, none⟩ = some v ∧ g < w.heap.size
theorem BoxC.kept {w w' : World} {g : Nat} {v : Value} (h : BoxC w g v) (hb : Below w.heap.size w w') : BoxC w' g v := ⟨(hb.cell (show (⟨g, 0, none⟩ : Addr).block < _ from h.2)).trans h.1, Nat.lt_of_lt_of_le h.2 hb.size⟩
theorem BoxC.apart {w w' : World} {g : Nat} {v : Value} {F : Addr → Prop} (h : BoxC w g v) (hu : Unch F w w') (hd : ¬ F ⟨g, 0, none⟩) : BoxC w' g v := ⟨(hu.same ⟨g, 0, none⟩ h.2 hd).1.trans h.1, Nat.lt_of_lt_of_le h.2 hu.size⟩
theorem BoxC.new (w : World) (v : Value) (t : TypeId) : BoxC (w.alloc (.cells #[v] t)) w.heap.size v := ⟨InC.cell (heap_alloc_new w _) 0 rfl, by simp⟩
theorem cnt_links (l : List DLink) : cntRow rLink l = 2 * l.length := by
  unfold cntRow
  induction l with
  | nil => rfl
  | cons x l ih => rw [List.map_cons, List.sum_cons, ih, rLink_cnt, List.length_cons]; omega
end Go.Proofs.Ytlekcnddejnejaa
