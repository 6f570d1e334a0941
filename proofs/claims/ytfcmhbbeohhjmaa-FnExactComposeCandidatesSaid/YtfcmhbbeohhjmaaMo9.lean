/- Appending links, as data: one link, a row of links; in a region that draws and in one that does not. -/
import Derived.Test.YtfcmhbbeohhjmaaAp9
import Derived.Test.YtfcmhbbeohhjmaaRb
import Derived.Test.YtfcmhbbeohhjmaaM9
namespace Go.Proofs.Ytfcmhbbeohhjmaa
set_option maxRecDepth 100000
open Go.RowKit M
set_option linter.unusedVariables false
set_option linter.unusedSimpArgs false

theorem flatLink9 : Flat rLink where
  free := fun h G => by obtain rfl := rLink_rd h; exact rLink_mk
  one := fun h u hu => by obtain rfl := rLink_rd h; simp at hu; rcases hu with rfl | rfl <;> rfl
/-- A row of links of the call's own. -/
def OwnL (base : Nat) (w : World) (v : Value) (acc : List DLink) : Prop := OwnRd rLink 40 true base w v acc (fun _ => False)
theorem OwnL.kept {base : Nat} {w w' : World} {v : Value} {acc : List DLink} (h : OwnL base w v acc) (hb : Below w.heap.size w w') : OwnL base w' v acc := OwnRd.kept h hb
theorem OwnL.lt {base : Nat} {w : World} {v : Value} {acc : List DLink} (h : OwnL base w v acc) : ∀ k, v.ownBlock = some k → base ≤ k ∧ k < w.heap.size := OwnRd.lt h
theorem OwnL.form {base : Nat} {w : World} {v : Value} {acc : List DLink} (h : OwnL base w v acc) : ∃ A c, v = .slice A acc.length c := by
  obtain ⟨cells, Fk, hown, _⟩ := h; exact own_form hown
theorem OwnL.row {base : Nat} {w : World} {v : Value} {acc : List DLink} (h : OwnL base w v acc) (hm : acc.length ≤ 1000000) : RowRd rLink true w v acc (fun a => base ≤ a.block) :=
  (OwnRd.row h (by omega)).mono fun a ha => ha.resolve_right id
theorem OwnL.set {base : Nat} {w : World} {v : Value} {acc : List DLink} (h : OwnL base w v acc) {p : Addr} (hp : p.block < base) (u : Value) : OwnL base (w.setCell p u) v acc := by
  refine OwnRd.frame h (fun k hk => heap_setCell_other w p k u (by have := (h.lt k hk).1; omega)) (fun a ha => ha.elim) (by simp [World.setCell])
section
variable {base : Nat} {w : World} {v : Value} {acc m : List DLink} {A : Option Addr} {n cap : Nat} {F : Addr → Prop}
theorem run_links (hown : OwnL base w v acc) (hrow : RowRd rLink false w (.slice A n cap) m F) (hF : ∀ a, F a → a.block < w.heap.size ∧ v.ownBlock ≠ some a.block) (hn : acc.length ≤ 1000000) (hm : m.length ≤ 1000000) (hbase : base ≤ w.heap.size) (ty : TypeId) :
    ∃ v' w', (Builtin.append_ #[27, 27] ty #[v, .slice A n cap]).run Try.prog w = .ok v' w' ∧ OwnL base w' v' (acc ++ m) ∧ Below base w w' ∧ (∀ k, k < w.heap.size → v.ownBlock ≠ some k → w'.heap[k]? = w.heap[k]? ∧ v'.ownBlock ≠ some k) := by
  obtain ⟨i3, hi3, qz3, qz4, qz5⟩ := info_parts Try.infoTLink
  have ho : OwnRd rLink 40 false base w v acc (fun _ => False) := by
    obtain ⟨cells, Fk, h1, h2⟩ := hown
    exact ⟨cells, Fk, h1, fun k x hk => by obtain ⟨ys, a, b, c, d⟩ := h2 k x hk; exact ⟨ys, a, rLink.weak b, c, fun h => by cases h⟩⟩
  obtain ⟨v', w', hr, h1, _, h3, h4, _⟩ := run_append_rows rLink (w := w) 27 ty 40 i3 (.agg #[.int .u8 0, .int .u8 0]) 2 Try.underlying27 hi3 qz3 qz4 qz5 rfl (by decide) flatLink9.one false base v acc _ ho A n cap m F hrow hF (fun h => by cases h) hn hm (by omega) hbase
  exact ⟨v', w', hr, h1.flat flatLink9, h3, h4⟩
theorem step_links {ops : Array Oper} {o : Oper} {a : Act} {K : Act → World → Prop} {Q : Exit → Act → World → Prop} {Z : Prop} (w : World) (hgd : o.guard = none) (sl y : Operand)
    (ho : o.op = .call { callee := .builtin .append, args := #[sl, y], argTypes := #[27, 27] })
    (base : Nat) (v : Value) (acc m : List DLink) (A : Option Addr) (n cap : Nat) (F : Addr → Prop) (hown : OwnL base w v acc) (hrow : RowRd rLink false w (.slice A n cap) m F) (hF : ∀ a, F a → a.block < w.heap.size ∧ v.ownBlock ≠ some a.block) (hn : acc.length ≤ 1000000) (hm : m.length ≤ 1000000) (hbase : base ≤ w.heap.size)
    (hs : a.eval sl = v) (hy : a.eval y = .slice A n cap)
    (h : ∀ v' w', OwnL base w' v' (acc ++ m) → Below base w w' → (∀ k, k < w.heap.size → v.ownBlock ≠ some k → w'.heap[k]? = w.heap[k]? ∧ v'.ownBlock ≠ some k) → K (a.put o.dst v') w') :
    if Region.wanted o (yielded ops a.tmps) = true then Oper.wp Try.prog o a w K Q else Z := by
  have hw : Region.wanted o (yielded ops a.tmps) = true := by simp [Region.wanted, hgd]
  rw [if_pos hw]
  obtain ⟨v', w', hr, h1, h2, h3⟩ := run_links hown hrow hF hn hm hbase o.type
  unfold Oper.wp execOp
  simp only [ho, resolve, invoke, builtin, Sem.run_bind, Sem.run_pure, Result.andThen_ok, List.map_toArray, List.map_cons, List.map_nil, hs, hy, hr]
  exact h v' w' h1 h2 h3
/-- One link: the new row of one element is laid at the heap's end. -/
theorem run_link1 (x : DLink) (hown : OwnL base w v acc) (hn : acc.length ≤ 1000000) (hbase : base ≤ w.heap.size) (ty : TypeId) :
    ∃ v' w', (Builtin.append_ #[27, 27] ty #[v, .slice (some ⟨w.heap.size, 0, none⟩) 1 1]).run Try.prog (w.alloc (.cells #[.int .u8 (x.In.toNat : Int), .int .u8 (x.Out.toNat : Int)] 40)) = .ok v' w' ∧ OwnL base w' v' (acc ++ [x]) ∧ Below base w w' ∧ (∀ k, k < w.heap.size → v.ownBlock ≠ some k → w'.heap[k]? = w.heap[k]? ∧ v'.ownBlock ≠ some k) := by
  have hb : Below w.heap.size w (w.alloc (.cells #[.int .u8 (x.In.toNat : Int), .int .u8 (x.Out.toNat : Int)] 40)) := (Below.refl _ _).alloc (Nat.le_refl _) _
  have hr1 : RowRd rLink false (w.alloc (.cells #[.int .u8 (x.In.toNat : Int), .int .u8 (x.Out.toNat : Int)] 40)) (.slice (some ⟨w.heap.size, 0, none⟩) 1 1) [x] (fun q => False ∨ q.block = w.heap.size) := RowRd.one (e := 40) w (rLink_mk (s := false) (w := w) (x := x) (F := fun _ => False)) (fun a h => h.elim)
  obtain ⟨v', w', hr, h1, h2, h3⟩ := run_links (hown.kept hb) hr1 (fun a ha => ⟨by rcases ha with ha | ha; exact ha.elim; simp; omega, fun e => by rcases ha with ha | ha; exact ha; have := (hown.lt _ e).2; omega⟩) hn (by simp) (Nat.le_trans hbase hb.size) ty
  refine ⟨v', w', hr, h1, (hb.mono hbase).trans h2, fun k hk hne => ?_⟩
  have h4 := h3 k (Nat.lt_of_lt_of_le hk hb.size) hne
  exact ⟨h4.1.trans (hb.block k hk), h4.2⟩
theorem wpList_link1 {ops : Array Oper} {rest : List Oper} {o : Oper} {a : Act} {Q : Exit → Act → World → Prop} (w : World) (hgd : o.guard = none) (sl y : Operand)
    (ho : o.op = .call { callee := .builtin .append, args := #[sl, y], argTypes := #[27, 27] })
    (base : Nat) (v : Value) (acc : List DLink) (x : DLink) (hown : OwnL base w v acc) (p q : Int) (hp : (x.In.toNat : Int) = p) (hq : (x.Out.toNat : Int) = q) (hn : acc.length ≤ 1000000) (hbase : base ≤ w.heap.size) (nb : Nat) (hnb : nb = w.heap.size)
    (hs : a.eval sl = v) (hy : a.eval y = .slice (some ⟨nb, 0, none⟩) 1 1)
    (h : ∀ v' w', OwnL base w' v' (acc ++ [x]) → Below base w w' → (∀ k, k < w.heap.size → v.ownBlock ≠ some k → w'.heap[k]? = w.heap[k]? ∧ v'.ownBlock ≠ some k) → wpList Try.prog ops Q rest (a.put o.dst v') w') :
    wpList Try.prog ops Q (o :: rest) a (w.alloc (.cells #[.int .u8 p, .int .u8 q] 40)) := by
  refine wpList_plain hgd fun K hK => ?_
  subst hnb hp hq
  obtain ⟨v', w', hr, h1, h2, h3⟩ := run_link1 x hown hn hbase o.type
  unfold Oper.wp execOp
  simp only [ho, resolve, invoke, builtin, Sem.run_bind, Sem.run_pure, Result.andThen_ok, List.map_toArray, List.map_cons, List.map_nil, hs, hy, hr]
  exact hK _ _ (h v' w' h1 h2 h3)
theorem step_link1_drew {ops : Array Oper} {o : Oper} {a : Act} {K : Act → World → Prop} {Q : Exit → Act → World → Prop} {Z : Prop} (w : World) (hgd : o.guard = none) (sl y : Operand)
    (ho : o.op = .call { callee := .builtin .append, args := #[sl, y], argTypes := #[27, 27] })
    (base : Nat) (v : Value) (acc : List DLink) (x : DLink) (hown : OwnL base w v acc) (p q : Int) (hp : (x.In.toNat : Int) = p) (hq : (x.Out.toNat : Int) = q) (hn : acc.length ≤ 1000000) (hbase : base ≤ w.heap.size) (nb : Nat) (hnb : nb = w.heap.size)
    (hs : a.eval sl = v) (hy : a.eval y = .slice (some ⟨nb, 0, none⟩) 1 1)
    (h : ∀ v' w', OwnL base w' v' (acc ++ [x]) → Below base w w' → (∀ k, k < w.heap.size → v.ownBlock ≠ some k → w'.heap[k]? = w.heap[k]? ∧ v'.ownBlock ≠ some k) → K (a.put o.dst v') w') :
    if Region.wanted o (yielded ops a.tmps) = true then Oper.wp Try.prog o a ((w.alloc (.cells #[.int .u8 p, .int .u8 q] 40)).drew) K Q else Z := by
  have hw : Region.wanted o (yielded ops a.tmps) = true := by simp [Region.wanted, hgd]
  rw [if_pos hw]
  subst hnb hp hq
  obtain ⟨v', w', hr, h1, h2, h3⟩ := run_link1 (w := w.drew) x (hown.kept (Below.refl _ _).drew) hn hbase o.type
  unfold Oper.wp execOp
  simp only [ho, resolve, invoke, builtin, Sem.run_bind, Sem.run_pure, Result.andThen_ok, List.map_toArray, List.map_cons, List.map_nil, hs, hy]
  have hr' : (Builtin.append_ #[27, 27] o.type #[v, .slice (some ⟨w.heap.size, 0, none⟩) 1 1]).run Try.prog ((w.alloc (.cells #[.int .u8 (x.In.toNat : Int), .int .u8 (x.Out.toNat : Int)] 40)).drew) = .ok v' w' := hr
  rw [hr']
  exact h v' w' h1 ⟨h2.os, h2.tape, h2.output, h2.size, h2.block⟩ h3
end
end Go.Proofs.Ytfcmhbbeohhjmaa
