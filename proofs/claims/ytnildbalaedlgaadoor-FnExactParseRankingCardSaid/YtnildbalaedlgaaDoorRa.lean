/- Rows of data that a call lays by appending. -/
import Derived.Test.YtnildbalaedlgaaDoorRp
import Derived.Test.YtnildbalaedlgaaDoorRows
import Derived.Laws.AppendOwnNone
namespace Go.Proofs.YtnildbalaedlgaaDoor
set_option maxRecDepth 100000
open Go.RowKit
set_option linter.unusedVariables false

/-- A row of the call's own that holds these data; what they lead to lies within G, not in the row's block. -/
def OwnRd {α : Type} (E : Rep α) (e : TypeId) (s : Bool) (base : Nat) (w : World) (v : Value) (l : List α) (G : Addr → Prop) : Prop :=
  ∃ (cells : List Value) (Fk : Nat → Addr → Prop), w.ownsRow base e E.size v l.length cells ∧ ∀ k x, l[k]? = some x → ∃ ys : List Value, (∀ j u, ys[j]? = some u → cells[k * E.size + j]? = some u) ∧ E.rd s w ys x (Fk k) ∧
    (∀ a, Fk k a → G a ∧ a.block < w.heap.size ∧ v.ownBlock ≠ some a.block) ∧ (s = true → ∀ k', k' < l.length → k' ≠ k → ∀ a, Fk k a → ¬ Fk k' a)
section
variable {α : Type} {E : Rep α} {e : TypeId} {s : Bool} {base : Nat} {w w' : World} {v : Value} {l : List α} {G : Addr → Prop}
theorem OwnRd.row (h : OwnRd E e s base w v l G) (hm : l.length ≤ 9223372036854775807) : RowRd E s w v l (fun a => base ≤ a.block ∨ G a) := by
  obtain ⟨cells, Fk, hown, he⟩ := h
  have hh := hown
  rcases hown.2 with ⟨rfl, h0⟩ | ⟨g, cap, cur, rfl, hb, hg, hcap, _⟩
  · have : l = [] := List.eq_nil_of_length_eq_zero h0
    subst this
    exact RowRd.nil _ _ _
  · refine ⟨some ⟨g, 0, none⟩, cap, Fk, rfl, ⟨hm, (fun h => by cases h), hcap⟩, fun k x hk => ?_⟩
    obtain ⟨ys, h1, h2, h3, h4⟩ := he k x hk
    have hkl : k < l.length := (List.getElem?_eq_some_iff.1 hk).1
    refine ⟨g, 0, ys, rfl, h2, fun a ha => Or.inr (h3 a ha).1, fun j u hj => ?_, fun hs => ⟨fun i _ hf => (h3 _ hf).2.2 (by simp [Value.ownBlock]), h4 hs⟩⟩
    have hjs : j < E.size := by rw [← E.len h2]; exact (List.getElem?_eq_some_iff.1 hj).1
    have hin : k * E.size + j < l.length * E.size := by
      have : (k + 1) * E.size ≤ l.length * E.size := Nat.mul_le_mul_right _ hkl
      rw [Nat.succ_mul] at this
      omega
    rw [Nat.zero_add]
    exact ⟨(hh.cellAt _ hin).trans (h1 j u hj), Or.inl hb, fun _ => hh.frozenAt _⟩
theorem OwnRd.kept (h : OwnRd E e s base w v l G) (hb : Below w.heap.size w w') : OwnRd E e s base w' v l G := by
  obtain ⟨cells, Fk, hown, he⟩ := h
  refine ⟨cells, Fk, ⟨hown.1, ?_⟩, fun k x hk => ?_⟩
  · rcases hown.2 with h2 | ⟨g, cap, cur, hv, hg, hh, r⟩
    · exact Or.inl h2
    · exact Or.inr ⟨g, cap, cur, hv, hg, (hb.block g (Array.getElem?_eq_some_iff.1 hh).1).trans hh, r⟩
  · obtain ⟨ys, h1, h2, h3, h4⟩ := he k x hk
    exact ⟨ys, h1, E.kept h2 hb, fun a ha => ⟨(h3 a ha).1, Nat.lt_of_lt_of_le (h3 a ha).2.1 hb.size, (h3 a ha).2.2⟩, h4⟩
theorem OwnRd.lt (h : OwnRd E e s base w v l G) : ∀ k, v.ownBlock = some k → base ≤ k ∧ k < w.heap.size := by
  obtain ⟨cells, Fk, hown, _⟩ := h
  exact hown.lt
theorem OwnRd.mono {G' : Addr → Prop} (h : OwnRd E e s base w v l G) (hg : ∀ a, G a → G' a) : OwnRd E e s base w v l G' := by
  obtain ⟨cells, Fk, hown, he⟩ := h
  refine ⟨cells, Fk, hown, fun k x hk => ?_⟩
  obtain ⟨ys, h1, h2, h3, h4⟩ := he k x hk
  exact ⟨ys, h1, h2, fun a ha => ⟨hg a (h3 a ha).1, (h3 a ha).2⟩, h4⟩
/-- A new empty row. -/
theorem OwnRd.empty (w : World) (hb : base ≤ w.heap.size) (G : Addr → Prop) : OwnRd E e s base (w.alloc (.cells #[] e)) (.slice (some ⟨w.heap.size, 0, none⟩) 0 0) ([] : List α) G :=
  ⟨[], fun _ _ => False, ⟨by simp, Or.inr ⟨w.heap.size, 0, #[], rfl, hb, heap_alloc_new _ _, Nat.le_refl _, Nat.zero_le _, by simp, by simp⟩⟩, fun k x hk => by simp at hk⟩
theorem OwnRd.nil (w : World) (G : Addr → Prop) : OwnRd E e s base w (.slice none 0 0) ([] : List α) G :=
  ⟨[], fun _ _ => False, ⟨by simp, Or.inl ⟨rfl, rfl⟩⟩, fun k x hk => by simp at hk⟩
/-- One element more. -/
theorem OwnRd.grow (h : OwnRd E e s base w v l G) {v' : Value} {xs : List Value} {x : α} {Fx : Addr → Prop} {cells0 : List Value} (hx : E.rd s w xs x Fx)
    (hFx : ∀ a, Fx a → a.block < w.heap.size ∧ v.ownBlock ≠ some a.block) (hd : s = true → ∀ a, Fx a → ¬ G a)
    (hcells : ∀ cells, w.ownsRow base e E.size v l.length cells → w'.ownsRow base e E.size v' (l.length + 1) (cells ++ xs)) (hsz : w.heap.size ≤ w'.heap.size)
    (hkeep : ∀ k, k < w.heap.size → v.ownBlock ≠ some k → w'.heap[k]? = w.heap[k]? ∧ v'.ownBlock ≠ some k) : OwnRd E e s base w' v' (l ++ [x]) (fun a => G a ∨ Fx a) := by
  obtain ⟨cells, Fk, hown, he⟩ := h
  have hcl : cells.length = l.length * E.size := hown.1
  have hfr : ∀ (F : Addr → Prop), (∀ a, F a → a.block < w.heap.size ∧ v.ownBlock ≠ some a.block) → ∀ a, F a → w'.cell? a = w.cell? a ∧ w'.frozen? a = w.frozen? a := fun F hF a ha =>
    ⟨World.cell?_of_block (w := w) (hkeep _ (hF a ha).1 (hF a ha).2).1, World.frozen?_of_block (w := w) (hkeep _ (hF a ha).1 (hF a ha).2).1⟩
  refine ⟨cells ++ xs, fun k => if k < l.length then Fk k else Fx, by rw [List.length_append, List.length_singleton]; exact hcells cells hown, fun k y hk => ?_⟩
  by_cases hkl : k < l.length
  · rw [List.getElem?_append_left hkl] at hk
    obtain ⟨ys, h1, h2, h3, h4⟩ := he k y hk
    refine ⟨ys, fun j u hj => ?_, ?_, ?_, ?_⟩
    · have := h1 j u hj
      rw [List.getElem?_append_left (List.getElem?_eq_some_iff.1 this).1]; exact this
    · simp only [if_pos hkl]
      exact E.frame h2 (hfr _ fun a ha => (h3 a ha).2)
    · simp only [if_pos hkl]
      exact fun a ha => ⟨Or.inl (h3 a ha).1, Nat.lt_of_lt_of_le (h3 a ha).2.1 hsz, (hkeep _ (h3 a ha).2.1 (h3 a ha).2.2).2⟩
    · intro hs k' hk' hne a ha
      simp only [if_pos hkl] at ha
      by_cases hk2 : k' < l.length
      · simp only [if_pos hk2]; exact h4 hs k' hk2 hne a ha
      · simp only [if_neg hk2]; exact fun hf => hd hs a hf (h3 a ha).1
  · have hk1 : k < (l ++ [x]).length := (List.getElem?_eq_some_iff.1 hk).1
    rw [List.length_append, List.length_singleton] at hk1
    obtain rfl : k = l.length := by omega
    rw [List.getElem?_append_right (Nat.le_refl _), Nat.sub_self] at hk
    simp at hk
    subst hk
    refine ⟨xs, fun j u hj => ?_, ?_, ?_, ?_⟩
    · rw [List.getElem?_append_right (by omega), hcl, show l.length * E.size + j - l.length * E.size = j by omega]; exact hj
    · simp only [if_neg hkl]
      exact E.frame hx (hfr _ hFx)
    · simp only [if_neg hkl]
      exact fun a ha => ⟨Or.inr ha, Nat.lt_of_lt_of_le (hFx a ha).1 hsz, (hkeep _ (hFx a ha).1 (hFx a ha).2).2⟩
    · intro hs k' hk' hne a ha
      simp only [if_neg hkl] at ha
      rw [List.length_append, List.length_singleton] at hk'
      have hk2 : k' < l.length := by omega
      simp only [if_pos hk2]
      obtain ⟨ys, _, _, q3, _⟩ := he k' _ (List.getElem?_eq_getElem hk2)
      exact fun hf => hd hs a ha (q3 a hf).1
end
theorem cells_new (w : World) (xs : List Value) (t : TypeId) : ∀ j u, xs[j]? = some u → (w.alloc (.cells xs.toArray t)).cell? ((⟨w.heap.size, 0, none⟩ : Addr).add j) = some u := by
  intro j u hj
  have h := cell_in (heap_alloc_new w (.cells xs.toArray t)) j (u := u) (by simpa using hj)
  unfold Addr.add
  split
  · rename_i h0; rw [h0] at h; exact h
  · simpa using h
/-- 'append(s, x)' of one element. -/
theorem wpList_append_el {α : Type} (E : Rep α) {ops : Array Oper} {rest : List Oper} {o : Oper} {a : Act} {Q : Exit → Act → World → Prop} (w : World) (hgd : o.guard = none) (sl y : Operand) (t e : TypeId) (i : TypeInfo) (z : Value) (bytes : Nat)
    (ho : o.op = .call { callee := .builtin .append, args := #[sl, y], argTypes := #[t, t] }) (ht : Tryd.prog.underlying t = some (.slice e)) (hi : Tryd.prog.info? e = some i) (hz : i.zero = some z) (hsize : i.size = E.size) (hby : i.bytes = bytes) (hzs : z.cells.size = E.size) (hpos : 0 < E.size)
    (s : Bool) (base : Nat) (v : Value) (l : List α) (G : Addr → Prop) (hown : OwnRd E e s base w v l G) (hs : a.eval sl = v) (xs : List Value) (x : α) (Fx : Addr → Prop) (hx : E.rd s w xs x Fx)
    (hFx : ∀ a, Fx a → a.block < w.heap.size ∧ v.ownBlock ≠ some a.block) (hd : s = true → ∀ a, Fx a → ¬ G a)
    (hy : a.eval y = .slice (some ⟨w.heap.size, 0, none⟩) 1 1) (h1 : ∀ u ∈ xs, u.oneCell' = true) (hn : l.length ≤ 1000000) (hbb : bytes ≤ 100) (hbase : base ≤ w.heap.size)
    (h : ∀ v' w', OwnRd E e s base w' v' (l ++ [x]) (fun a => G a ∨ Fx a) → Below base w w' → (∀ k, k < w.heap.size → v.ownBlock ≠ some k → w'.heap[k]? = w.heap[k]? ∧ v'.ownBlock ≠ some k) → (v'.ownBlock = v.ownBlock ∨ ∀ k, v'.ownBlock = some k → w.heap.size ≤ k) → wpList Tryd.prog ops Q rest (a.put o.dst v') w') :
    wpList Tryd.prog ops Q (o :: rest) a (w.alloc (.cells xs.toArray e)) := by
  obtain ⟨cells, Fk, ho1, he⟩ := hown
  have hbyt : (l.length + 1) * bytes ≤ 140737488355328 := Nat.le_trans (Nat.mul_le_mul (Nat.succ_le_succ hn) hbb) (by omega)
  refine wpList_append_own_at _ hgd sl y t ho base e i z E.size bytes ht hi hz hsize hby hzs hpos v l.length cells hs (ho1.alloc _) ⟨w.heap.size, 0, none⟩ 1 1 xs hy (by rw [E.len hx]; omega) (cells_new _ _ _) h1 (by unfold maxLen; omega) hbyt (by simp; omega) ?_
  intro v' w' q1 q2 _ q4
  have hkeep : ∀ k, k < w.heap.size → v.ownBlock ≠ some k → w'.heap[k]? = w.heap[k]? ∧ v'.ownBlock ≠ some k := fun k hk hv => by
    refine ⟨(q2.block k (by simp; omega) (fun e => hv e.symm)).trans (Below.heap_alloc w _ k hk), ?_⟩
    rcases q4 with q4 | q4
    · rw [q4]; exact hv
    · rw [q4]; simp; omega
  have hsz : w.heap.size ≤ w'.heap.size := Nat.le_trans (by simp) q2.size
  refine h v' w' (OwnRd.grow (cells0 := cells) ⟨cells, Fk, ho1, he⟩ hx hFx hd (fun cs hcs => ?_) hsz hkeep) ?_ hkeep ?_
  · have : cs = cells := by
      rcases ho1.2 with ⟨rfl, h0⟩ | ⟨g, cap, cur, rfl, _, hg, _, _, _, htk⟩
      · have e1 := ho1.1; have e2 := hcs.1; rw [h0, Nat.zero_mul] at e1 e2
        rw [List.eq_nil_of_length_eq_zero e1, List.eq_nil_of_length_eq_zero e2]
      · rcases hcs.2 with ⟨h0, _⟩ | ⟨g', cap', cur', hv', _, hg', _, _, _, htk'⟩
        · cases h0
        · cases hv'
          rw [hg] at hg'
          cases hg'
          rw [← htk, ← htk']
    subst this
    exact q1
  · exact ((Below.refl base w).alloc hbase _).grown q2 (by simp; omega) (fun q hq => (ho1.lt q hq).1)
  · rcases q4 with q4 | q4
    · exact Or.inl q4
    · exact Or.inr fun k hk => by rw [q4] at hk; cases hk; simp
/-- Elements that lead nowhere: the same cells stand for them in every world. -/
structure Flat {α : Type} (E : Rep α) : Prop where
  free : ∀ {s : Bool} {w : World} {ys : List Value} {x : α} {F : Addr → Prop}, E.rd s w ys x F → ∀ w', E.rd true w' ys x (fun _ => False)
  one : ∀ {s : Bool} {w : World} {ys : List Value} {x : α} {F : Addr → Prop}, E.rd s w ys x F → ∀ u ∈ ys, u.oneCell' = true
/-- The cells of a row, one behind the other. -/
def rowCells (w : World) (g off n : Nat) : List Value := (List.range n).map fun i => (w.cell? ⟨g, off + i, none⟩).getD .nilIface
theorem rowCells_len (w : World) (g off n : Nat) : (rowCells w g off n).length = n := by simp [rowCells]
theorem rowCells_at {w : World} {g off n i : Nat} {u : Value} (hi : i < n) (h : w.cell? ⟨g, off + i, none⟩ = some u) : (rowCells w g off n)[i]? = some u := by
  unfold rowCells; rw [List.getElem?_map, List.getElem?_range hi]; simp [h]
theorem RowRd.all_cells {α : Type} {E : Rep α} {s : Bool} {w : World} {g off n cap : Nat} {m : List α} {F : Addr → Prop} (h : RowRd E s w (.slice (some ⟨g, off, none⟩) n cap) m F) (hp : 0 < E.size) {i : Nat} (hi : i < m.length * E.size) :
    ∃ x ys Fk u, m[i / E.size]? = some x ∧ E.rd s w ys x Fk ∧ ys[i % E.size]? = some u ∧ w.cell? ⟨g, off + i, none⟩ = some u := by
  have hq : i / E.size < m.length := Nat.div_lt_of_lt_mul (by rw [Nat.mul_comm]; exact hi)
  obtain ⟨g', off', ys, Fk, ha, hl, hr, _, hc⟩ := h.get (List.getElem?_eq_getElem hq)
  cases ha
  have hm : i % E.size < ys.length := by rw [hl]; exact Nat.mod_lt _ hp
  refine ⟨_, ys, Fk, _, List.getElem?_eq_getElem hq, hr, List.getElem?_eq_getElem hm, ?_⟩
  have := hc _ _ (List.getElem?_eq_getElem hm)
  rwa [Nat.add_assoc, Nat.mul_comm, Nat.div_add_mod] at this
/-- 'append(s, y...)' of elements that lead nowhere. -/
theorem wpList_append_row {α : Type} (E : Rep α) (hfl : Flat E) {ops : Array Oper} {rest : List Oper} {o : Oper} {a : Act} {Q : Exit → Act → World → Prop} (w : World) (hgd : o.guard = none) (sl y : Operand) (t e : TypeId) (i : TypeInfo) (z : Value) (bytes : Nat)
    (ho : o.op = .call { callee := .builtin .append, args := #[sl, y], argTypes := #[t, t] }) (ht : Tryd.prog.underlying t = some (.slice e)) (hi : Tryd.prog.info? e = some i) (hz : i.zero = some z) (hsize : i.size = E.size) (hby : i.bytes = bytes) (hzs : z.cells.size = E.size) (hpos : 0 < E.size)
    (s s2 : Bool) (base : Nat) (v : Value) (l : List α) (G : Addr → Prop) (hown : OwnRd E e s base w v l G) (hs : a.eval sl = v) (A : Option Addr) (n cap : Nat) (m : List α) (F : Addr → Prop) (hrow : RowRd E s2 w (.slice A n cap) m F)
    (hy : a.eval y = .slice A n cap) (hn : l.length ≤ 1000000) (hm : m.length ≤ 1000000) (hbb : bytes ≤ 100) (hbase : base ≤ w.heap.size)
    (h : ∀ v' w', OwnRd E e true base w' v' (l ++ m) (fun _ => False) → Below base w w' → (∀ k, k < w.heap.size → v.ownBlock ≠ some k → w'.heap[k]? = w.heap[k]? ∧ v'.ownBlock ≠ some k) → wpList Tryd.prog ops Q rest (a.put o.dst v') w') :
    wpList Tryd.prog ops Q (o :: rest) a w := by
  obtain ⟨cells, Fk, ho1, he⟩ := hown
  have hcl : cells.length = l.length * E.size := ho1.1
  obtain ⟨A', cap', hf⟩ := hrow.form
  cases hf
  cases A with
  | none =>
    obtain ⟨_, h2, hmn⟩ := hrow.nil_cap
    subst h2 hmn
    refine wpList_append_own_none hgd sl y t ho base e i E.size ht hi v l.length cells hs ho1 hy ?_
    refine h v w ⟨cells, fun _ _ => False, by simpa using ho1, fun k x hk => ?_⟩ (Below.refl _ _) (fun k _ hv => ⟨rfl, hv⟩)
    rw [List.append_nil] at hk
    obtain ⟨ys, q1, q2, _⟩ := he k x hk
    exact ⟨ys, q1, hfl.free q2 _, fun a h => h.elim, fun _ k' _ _ a h => h.elim⟩
  | some p =>
    by_cases hme : m = []
    · subst hme
      have hbyt : (l.length + 0) * bytes ≤ 140737488355328 := Nat.le_trans (Nat.mul_le_mul hn hbb) (by omega)
      refine wpList_append_own_at _ hgd sl y t ho base e i z E.size bytes ht hi hz hsize hby hzs hpos v l.length cells hs ho1 p 0 cap [] hy (by simp) (fun j u hj => by simp at hj) (fun u hu => by simp at hu) (by unfold maxLen; omega) hbyt hbase ?_
      intro v' w' q1 q2 _ q4
      have hkeep : ∀ k, k < w.heap.size → v.ownBlock ≠ some k → w'.heap[k]? = w.heap[k]? ∧ v'.ownBlock ≠ some k := fun k hk hv => by
        refine ⟨q2.block k hk (fun e => hv e.symm), ?_⟩
        rcases q4 with q4 | q4
        · rw [q4]; exact hv
        · rw [q4]; simp; omega
      refine h v' w' ⟨cells, fun _ _ => False, by simpa using q1, fun k x hk => ?_⟩ ((Below.refl base w).grown q2 hbase (fun q hq => (ho1.lt q hq).1)) hkeep
      rw [List.append_nil] at hk
      obtain ⟨ys, r1, r2, _⟩ := he k x hk
      exact ⟨ys, r1, hfl.free r2 _, fun a h => h.elim, fun _ k' _ _ a h => h.elim⟩
    have hm0 : 0 < m.length := List.length_pos_iff.2 hme
    obtain ⟨g, off, _, _, hp, _⟩ := hrow.get (List.getElem?_eq_getElem hm0)
    cases hp
    have hbyt : (l.length + m.length) * bytes ≤ 140737488355328 := Nat.le_trans (Nat.mul_le_mul (Nat.add_le_add hn hm) hbb) (by omega)
    have hadd : ∀ j, (⟨g, off, none⟩ : Addr).add j = ⟨g, off + j, none⟩ := fun j => by unfold Addr.add; split <;> simp_all
    refine wpList_append_own_at _ hgd sl y t ho base e i z E.size bytes ht hi hz hsize hby hzs hpos v l.length cells hs ho1 ⟨g, off, none⟩ m.length cap (rowCells w g off (m.length * E.size)) hy (rowCells_len _ _ _ _) (fun j u hj => ?_) (fun u hu => ?_) (by unfold maxLen; omega) hbyt hbase ?_
    · have hjl : j < m.length * E.size := by have := (List.getElem?_eq_some_iff.1 hj).1; rwa [rowCells_len] at this
      obtain ⟨_, _, _, u', _, _, _, hc⟩ := hrow.all_cells hpos hjl
      rw [rowCells_at hjl hc] at hj
      cases hj
      rw [hadd]; exact hc
    · obtain ⟨j, hj⟩ := List.mem_iff_getElem?.1 hu
      have hjl : j < m.length * E.size := by have := (List.getElem?_eq_some_iff.1 hj).1; rwa [rowCells_len] at this
      obtain ⟨_, ys, _, u', _, hr, hyu, hc⟩ := hrow.all_cells hpos hjl
      rw [rowCells_at hjl hc] at hj
      cases hj
      exact hfl.one hr _ (List.mem_of_getElem? hyu)
    · intro v' w' q1 q2 _ q4
      have hkeep : ∀ k, k < w.heap.size → v.ownBlock ≠ some k → w'.heap[k]? = w.heap[k]? ∧ v'.ownBlock ≠ some k := fun k hk hv => by
        refine ⟨q2.block k hk (fun e => hv e.symm), ?_⟩
        rcases q4 with q4 | q4
        · rw [q4]; exact hv
        · rw [q4]; simp; omega
      refine h v' w' ⟨cells ++ rowCells w g off (m.length * E.size), fun _ _ => False, by rw [List.length_append]; exact q1, fun k x hk => ?_⟩ ((Below.refl base w).grown q2 hbase (fun q hq => (ho1.lt q hq).1)) hkeep
      by_cases hkl : k < l.length
      · rw [List.getElem?_append_left hkl] at hk
        obtain ⟨ys, r1, r2, _⟩ := he k x hk
        refine ⟨ys, fun j u hj => ?_, hfl.free r2 _, fun a h => h.elim, fun _ k' _ _ a h => h.elim⟩
        have := r1 j u hj
        rw [List.getElem?_append_left (List.getElem?_eq_some_iff.1 this).1]; exact this
      · rw [List.getElem?_append_right (by omega)] at hk
        obtain ⟨g', off', ys, F', ha, hl', hr, _, hc⟩ := hrow.get hk
        cases ha
        refine ⟨ys, fun j u hj => ?_, hfl.free hr _, fun a h => h.elim, fun _ k' _ _ a h => h.elim⟩
        have hkm : k - l.length < m.length := (List.getElem?_eq_some_iff.1 hk).1
        have hjs : j < E.size := by rw [← hl']; exact (List.getElem?_eq_some_iff.1 hj).1
        have hin : (k - l.length) * E.size + j < m.length * E.size := by
          have : (k - l.length + 1) * E.size ≤ m.length * E.size := Nat.mul_le_mul_right _ hkm
          rw [Nat.succ_mul] at this
          omega
        have hsub : k * E.size + j - l.length * E.size = (k - l.length) * E.size + j := by
          have h1 : k * E.size = (k - l.length) * E.size + l.length * E.size := by rw [← Nat.add_mul, Nat.sub_add_cancel (by omega)]
          omega
        have hge : l.length * E.size ≤ k * E.size + j := by
          have : l.length * E.size ≤ k * E.size := Nat.mul_le_mul_right _ (by omega)
          omega
        rw [List.getElem?_append_right (by omega), hcl, hsub]
        refine rowCells_at hin ?_
        rw [← Nat.add_assoc]
        exact hc j u hj
/-- What a call has laid between s1 and s2 stands as it did; a row that grows lies apart from it. -/
structure KeepB (s1 s2 : Nat) (w w' : World) : Prop where
  size : s2 ≤ w'.heap.size
  same : ∀ k, s1 ≤ k → k < s2 → w'.heap[k]? = w.heap[k]?
def Apart (v : Value) (s1 s2 : Nat) : Prop := ∀ k, v.ownBlock = some k → k < s1 ∨ s2 ≤ k
theorem KeepB.refl {s1 s2 : Nat} {w : World} (h : s2 ≤ w.heap.size) : KeepB s1 s2 w w := ⟨h, fun _ _ _ => rfl⟩
theorem KeepB.below {s1 s2 : Nat} {a b c : World} (h : KeepB s1 s2 a b) (k : Below b.heap.size b c) : KeepB s1 s2 a c :=
  ⟨Nat.le_trans h.size k.size, fun i hi hj => (k.block i (Nat.lt_of_lt_of_le hj h.size)).trans (h.same i hi hj)⟩
theorem KeepB.grow {s1 s2 : Nat} {a b c : World} {v : Value} (h : KeepB s1 s2 a b) (hap : Apart v s1 s2) (hsz : b.heap.size ≤ c.heap.size) (hk : ∀ k, k < b.heap.size → v.ownBlock ≠ some k → c.heap[k]? = b.heap[k]?) : KeepB s1 s2 a c :=
  ⟨Nat.le_trans h.size hsz, fun i hi hj => (hk i (Nat.lt_of_lt_of_le hj h.size) (fun e => by rcases hap i e with h1 | h1 <;> omega)).trans (h.same i hi hj)⟩
theorem Apart.grow {s1 s2 : Nat} {v v' : Value} {n : Nat} (h : Apart v s1 s2) (hn : s2 ≤ n) (hm : v'.ownBlock = v.ownBlock ∨ ∀ k, v'.ownBlock = some k → n ≤ k) : Apart v' s1 s2 := fun k hk => by
  rcases hm with h1 | h1
  · rw [h1] at hk; exact h k hk
  · exact Or.inr (Nat.le_trans hn (h1 k hk))
theorem RowRd.keepB {α : Type} {E : Rep α} {s : Bool} {s1 s2 : Nat} {w w' : World} {v : Value} {l : List α} {F : Addr → Prop} (h : RowRd E s w v l F) (hF : ∀ a, F a → s1 ≤ a.block ∧ a.block < s2) (hk : KeepB s1 s2 w w') : RowRd E s w' v l F :=
  h.frame fun a ha => ⟨World.cell?_of_block (w := w) (hk.same _ (hF a ha).1 (hF a ha).2), World.frozen?_of_block (w := w) (hk.same _ (hF a ha).1 (hF a ha).2)⟩
theorem apart_move {s1 s2 : Nat} {w : World} {v : Value} (hap : Apart v s1 s2) {Fk : Addr → Prop} (hFk : ∀ p, Fk p → s1 ≤ p.block ∧ p.block < s2) (hs : s2 ≤ w.heap.size) :
    ∀ p, Fk p → p.block < w.heap.size ∧ v.ownBlock ≠ some p.block := fun p hp => by
  have h := hFk p hp
  refine ⟨by omega, fun e => ?_⟩
  rcases hap _ e with h1 | h1 <;> omega
/-- A new row of one element that leads nowhere. -/
theorem OwnRd.single {α : Type} {E : Rep α} {e : TypeId} (hfl : Flat E) (w : World) {s : Bool} {ys : List Value} {x : α} {F : Addr → Prop} (hx : E.rd s w ys x F) : OwnRd E e true w.heap.size (w.alloc (.cells ys.toArray e)) (.slice (some ⟨w.heap.size, 0, none⟩) 1 1) [x] (fun _ => False) :=
  ⟨ys, fun _ _ => False, ⟨by rw [List.length_singleton, E.len hx, Nat.one_mul], Or.inr ⟨w.heap.size, 1, ys.toArray, rfl, Nat.le_refl _, heap_alloc_new _ _, Nat.le_refl _, by unfold maxLen; omega, by simp [E.len hx], by simp [E.len hx, List.take_of_length_le]⟩⟩, fun k y hk => by
    match k, hk with
    | 0, hk =>
      simp at hk
      subst hk
      exact ⟨ys, fun j u hj => by rw [Nat.zero_mul, Nat.zero_add]; exact hj, hfl.free hx _, fun a h => h.elim, fun _ k' _ _ a h => h.elim⟩⟩
end Go.Proofs.YtnildbalaedlgaaDoor
