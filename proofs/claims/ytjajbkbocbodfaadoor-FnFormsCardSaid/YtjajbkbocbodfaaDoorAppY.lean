/- Appending one syllable to a row of syllables that the call made; a syllable in a block of its own. -/
import Derived.Test.YtjajbkbocbodfaaDoorY0
import Derived.WalkKit
import Derived.Outline
import Derived.OneCell
namespace Go.Proofs.YtjajbkbocbodfaaDoor
open Go.RowKit

theorem Tryd.infoZ : (Tryd.prog.info? 38).map (fun i => (i.zero, i.size, i.bytes)) = some (some (.agg #[.string ⟨#[]⟩, .string ⟨#[]⟩, .string ⟨#[]⟩]), 3, 48) := by kernel_rfl
theorem cell_three_new (w : World) (a b c : Value) (t : TypeId) : ∀ j u, [a, b, c][j]? = some u → (w.alloc (.cells #[a, b, c] t)).cell? ((⟨w.heap.size, 0, none⟩ : Addr).add j) = some u := by
  intro j u hj
  match j, hj with
  | 0, hj => simp at hj; subst hj; simp [Addr.add, go_sem]
  | 1, hj => simp at hj; subst hj; simp [Addr.add, go_sem]
  | 2, hj => simp at hj; subst hj; simp [Addr.add, go_sem]
theorem wpList_append_syl {ops : Array Oper} {rest : List Oper} {o : Oper} {a : Act} {Q : Exit → Act → World → Prop} (w : World) (hgd : o.guard = none) (s y : Operand)
    (ho : o.op = .call { callee := .builtin .append, args := #[s, y], argTypes := #[34, 34] })
    (base : Nat) (v : Value) (n : Nat) (l : List Syl) (hs : a.eval s = v) (hown : w.ownsRow base 38 3 v n (cellsY l)) (x : Syl)
    (hx : a.eval y = .slice (some ⟨w.heap.size, 0, none⟩) 1 1) (hn : n ≤ 1000000000) (hbase : base ≤ w.heap.size)
    (h : ∀ v' w', w'.ownsRow base 38 3 v' (n + 1) (cellsY (l ++ [x])) → Below base w w' → (∀ k, k < w.heap.size → v.ownBlock ≠ some k → w'.heap[k]? = w.heap[k]? ∧ v'.ownBlock ≠ some k) → wpList Tryd.prog ops Q rest (a.put o.dst v') w') :
    wpList Tryd.prog ops Q (o :: rest) a (w.alloc (.cells #[.string (bs x.o), .string (bs x.n), .string (bs x.c)] 38)) := by
  obtain ⟨i0, hi, hz0, hz1, hz2⟩ := info_parts Tryd.infoZ
  refine wpList_append_own_at _ hgd s y 34 ho base 38 i0 (.agg #[.string ⟨#[]⟩, .string ⟨#[]⟩, .string ⟨#[]⟩]) 3 48 Tryd.underlying34 hi hz0 hz1 hz2 rfl (by decide) v n (cellsY l) hs (hown.alloc _) ⟨w.heap.size, 0, none⟩ 1 1 [.string (bs x.o), .string (bs x.n), .string (bs x.c)] hx rfl (cell_three_new _ _ _ _ _)
    (fun u hu => by simp at hu; rcases hu with rfl | rfl | rfl <;> rfl) (by unfold maxLen; omega) (by omega) (by simp; omega) ?_
  intro v' w' h1 h2 _ h4
  refine h v' w' (by rw [cellsY_append]; exact h1) (((Below.refl base w).alloc hbase _).grown h2 (by simp; omega) (fun q hq => (hown.lt q hq).1)) ?_
  intro k hk hv
  refine ⟨(h2.block k (by simp; omega) (fun e => hv e.symm)).trans (Below.heap_alloc w _ k hk), ?_⟩
  rcases h4 with h4 | h4
  · rw [h4]; exact hv
  · rw [h4]; simp; omega
/-- A syllable in a block. -/
def InBlk (w : World) (B : Nat) (x : Syl) : Prop := w.heap[B]? = some (.cells #[.string (bs x.o), .string (bs x.n), .string (bs x.c)] 38 (0, 0))
theorem InBlk.cells {w : World} {B : Nat} {x : Syl} (h : InBlk w B x) : w.cell? ⟨B, 0, none⟩ = some (.string (bs x.o)) ∧ w.cell? ⟨B, 1, none⟩ = some (.string (bs x.n)) ∧ w.cell? ⟨B, 2, none⟩ = some (.string (bs x.c)) := by
  unfold InBlk at h
  simp [World.cell?, h]
theorem InBlk.free {w : World} {B : Nat} {x : Syl} (h : InBlk w B x) (j : Nat) : w.frozen? ⟨B, j, none⟩ = false := frozen_of_row w B j _ _ h
theorem InBlk.set0 {w : World} {B : Nat} {x : Syl} (h : InBlk w B x) (p : List UInt8) : InBlk (w.setCell ⟨B, 0, none⟩ (.string (bs p))) B ⟨p, x.n, x.c⟩ := heap_setCell_same w B 0 _ _ _ h
theorem InBlk.set1 {w : World} {B : Nat} {x : Syl} (h : InBlk w B x) (p : List UInt8) : InBlk (w.setCell ⟨B, 1, none⟩ (.string (bs p))) B ⟨x.o, p, x.c⟩ := heap_setCell_same w B 1 _ _ _ h
theorem InBlk.set2 {w : World} {B : Nat} {x : Syl} (h : InBlk w B x) (p : List UInt8) : InBlk (w.setCell ⟨B, 2, none⟩ (.string (bs p))) B ⟨x.o, x.n, p⟩ := heap_setCell_same w B 2 _ _ _ h
end Go.Proofs.YtjajbkbocbodfaaDoor
