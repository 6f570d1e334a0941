/- Appending one byte to a row of bytes that the call made: a law for the walk. -/
import Derived.Test.YtfidmjpgceljkaaRow
namespace Go.Proofs.Ytfidmjpgceljkaa
open Go.RowKit M
theorem cellsB_append (a b : List UInt8) : cellsB (a ++ b) = cellsB a ++ cellsB b := by simp [cellsB]
theorem cellsB_one (x : Int) (h0 : 0 ≤ x) (h1 : x < 256) : cellsB [byt x] = [.int .u8 x] := by simp [cellsB, byt_toNat x h0 h1]
theorem wpList_append_byte {ops : Array Oper} {rest : List Oper} {o : Oper} {a : Act} {Q : Exit → Act → World → Prop} (w : World) (hgd : o.guard = none) (s x : Operand)
    (ho : o.op = .call { callee := .builtin .append, args := #[s, x], argTypes := #[36, 36] })
    (base : Nat) (v : Value) (n : Nat) (l : List UInt8) (hs : a.eval s = v) (hown : w.ownsRow base 5 1 v n (cellsB l)) (b : Int) (hb0 : 0 ≤ b) (hb1 : b < 256)
    (hx : a.eval x = .slice (some ⟨w.heap.size, 0, none⟩) 1 1) (hn : n ≤ 70368744177664) (hbase : base ≤ w.heap.size)
    (h : ∀ v' w', w'.ownsRow base 5 1 v' (n + 1) (cellsB (l ++ [byt b])) → Below base w w' → wpList Try.prog ops Q rest (a.put o.dst v') w') :
    wpList Try.prog ops Q (o :: rest) a (w.alloc (.cells #[.int .u8 b] 5)) := by
  obtain ⟨i0, hi, hz0, hz1, hz2⟩ := info_parts Try.info5
  refine wpList_append_own (w.alloc (.cells #[.int .u8 b] 5)) hgd s x 36 ho base 5 i0 (.int .u8 0) 1 1 Try.underlying36 hi hz0 hz1 hz2 rfl (by decide) v n (cellsB l) hs (hown.alloc _) ⟨w.heap.size, 0, none⟩ 1 1 [.int .u8 b] hx rfl (cell_one_new _ _ _)
    (fun u hu => by simp at hu; subst hu; rfl) (by unfold maxLen; omega) (by omega) (by simp; omega) ?_
  intro v' w' h1 h2 _
  refine h v' w' (by rw [cellsB_append, cellsB_one b hb0 hb1]; exact h1) ?_
  exact ((Below.refl base w).alloc hbase _).grown h2 (by simp; omega) (fun q hq => (hown.lt q hq).1)
end Go.Proofs.Ytfidmjpgceljkaa
