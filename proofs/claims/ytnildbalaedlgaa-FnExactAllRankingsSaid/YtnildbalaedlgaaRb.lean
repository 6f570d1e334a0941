/- Rows of data that a call lays by appending rows; what the row that was there before still holds. -/
import Derived.Test.YtnildbalaedlgaaRa
import Derived.Laws.AppendOwn
import Derived.Laws.OwnMore
namespace Go.Proofs.Ytnildbalaedlgaa
set_option maxRecDepth 100000
open Go.RowKit
set_option linter.unusedVariables false
set_option linter.unusedSimpArgs false

theorem addr_add (g o n : Nat) : (⟨g, o, none⟩ : Addr).add n = ⟨g, o + n, none⟩ := by
  unfold Addr.add
  by_cases h : n = 0
  · subst h; rfl
  · rw [if_neg h]
section
variable {P : Program} {w : World}
/-- The row that was appended to is still what it was, in its old length. -/
theorem append_old (base : Nat) (t ty e : TypeId) (i : TypeInfo) (z : Value) (ht : P.underlying t = some (.slice e)) (hi : P.info? e = some i) (hz : i.zero = some z) (hsz : 0 < i.size)
    (v : Value) (n : Nat) (xs : List Value) (hown : w.ownsRow base e i.size v n xs) (a : Addr) (m c : Nat) (news : List Value) (hl : news.length = m * i.size) (hnews : ∀ j u, news[j]? = some u → w.cell? (a.add j) = some u)
    (h1 : ∀ u ∈ news, u.oneCell' = true) (h63 : n + m ≤ maxLen) (hbytes : (n + m) * i.bytes ≤ 140737488355328)
    {v' : Value} {w' : World} (hrun : (Builtin.append_ #[t, t] ty #[v, .slice (some a) m c]).run P w = .ok v' w') : w'.ownsRow base e i.size v n xs := by
  rcases hown.2 with ⟨rfl, rfl⟩ | ⟨g, cap, cur, rfl, hbg, hg, hnc, hcm, hcs, htake⟩
  · exact ⟨hown.1, Or.inl ⟨rfl, rfl⟩⟩
  · have hxl := hown.1
    by_cases hroom : n + m ≤ cap
    · have hfit : n * i.size + news.length ≤ cur.size := by rw [hl, hcs, ← Nat.add_mul]; exact Nat.mul_le_mul_right _ hroom
      rw [run_append_room (P := P) w t ty e i ht hi g n cap cur hg a m c news hl hnews h1 hroom hfit] at hrun
      injection hrun with e1 e2
      subst e2
      refine ⟨hxl, Or.inr ⟨g, cap, _, rfl, hbg, setRow_heap w g cur _ e _ hg, hnc, hcm, ?_, ?_⟩⟩
      · simp only [List.size_toArray, List.length_append, List.length_take, List.length_drop, Array.length_toList]
        omega
      · rw [htake, List.append_assoc, ← hxl]
        exact List.take_left
    · rw [run_append_grow (P := P) w t ty e i z ht hi hz ⟨g, 0, none⟩ n cap xs hxl (hown.cells (g := g) rfl) a m c news hl hnews (by omega) (by simp only [maxLen] at h63; omega) (growslice_fits (by omega) hbytes)] at hrun
      injection hrun with e1 e2
      subst e2
      exact ⟨hxl, Or.inr ⟨g, cap, cur, rfl, hbg, (heap_alloc_old w.drew _ (Array.getElem?_eq_some_iff.1 hg).1).trans hg, hnc, hcm, hcs, htake⟩⟩
end
section
variable {α : Type} {E : Rep α} {e : TypeId} {s : Bool} {base : Nat} {w w' : World} {v : Value} {l : List α} {G : Addr → Prop}
theorem OwnRd.frame (h : OwnRd E e s base w v l G) (hv : ∀ k, v.ownBlock = some k → w'.heap[k]? = w.heap[k]?) (hG : ∀ a, G a → a.block < w.heap.size → v.ownBlock ≠ some a.block → w'.heap[a.block]? = w.heap[a.block]?) (hsz : w.heap.size ≤ w'.heap.size) : OwnRd E e s base w' v l G := by
  obtain ⟨cells, Fk, hown, he⟩ := h
  refine ⟨cells, Fk, ⟨hown.1, ?_⟩, fun k x hk => ?_⟩
  · rcases hown.2 with h2 | ⟨g, cap, cur, rfl, hg, hh, r⟩
    · exact Or.inl h2
    · exact Or.inr ⟨g, cap, cur, rfl, hg, (hv g rfl).trans hh, r⟩
  · obtain ⟨ys, h1, h2, h3, h4⟩ := he k x hk
    refine ⟨ys, h1, E.frame h2 (fun a ha => ?_), fun a ha => ⟨(h3 a ha).1, Nat.lt_of_lt_of_le (h3 a ha).2.1 hsz, (h3 a ha).2.2⟩, h4⟩
    have hb := hG a (h3 a ha).1 (h3 a ha).2.1 (h3 a ha).2.2
    exact ⟨World.cell?_of_block (w := w) hb, World.frozen?_of_block (w := w) hb⟩
theorem OwnRd.flat (hfl : Flat E) (h : OwnRd E e s base w v l G) : OwnRd E e true base w v l (fun _ => False) := by
  obtain ⟨cells, Fk, hown, he⟩ := h
  refine ⟨cells, fun _ _ => False, hown, fun k x hk => ?_⟩
  obtain ⟨ys, h1, h2, h3, h4⟩ := he k x hk
  exact ⟨ys, h1, hfl.free h2 _, fun a h => h.elim, fun _ k' _ _ a h => h.elim⟩
/-- A new row of one element. -/
theorem RowRd.one (w : World) {ys : List Value} {x : α} {F : Addr → Prop} (hx : E.rd s w ys x F) (hF : ∀ a, F a → a.block < w.heap.size) :
    RowRd E s (w.alloc (.cells ys.toArray e)) (.slice (some ⟨w.heap.size, 0, none⟩) 1 1) [x] (fun a => F a ∨ a.block = w.heap.size) := by
  have hb : Below w.heap.size w (w.alloc (.cells ys.toArray e)) := (Below.refl _ _).alloc (Nat.le_refl _) _
  refine ⟨some ⟨w.heap.size, 0, none⟩, 1, fun _ => F, rfl, ⟨by simp, (fun h => by cases h), by simp⟩, fun k y hk => ?_⟩
  match k, hk with
  | 0, hk =>
    simp at hk
    subst hk
    refine ⟨w.heap.size, 0, ys, rfl, E.kept hx hb, fun a ha => Or.inl ha, fun j u hj => ?_, fun hs => ⟨fun i _ hf => ?_, fun k' hk' hne => by simp at hk'; omega⟩⟩
    · have hin : InC (w.alloc (.cells ys.toArray e)) w.heap.size ys.toArray e := heap_alloc_new _ _
      simp only [Nat.zero_mul, Nat.zero_add, Nat.add_zero]
      exact ⟨hin.cell j (by simpa using hj), by simp, fun _ => hin.free j⟩
    · have := hF _ hf
      simp at this
end
/-- 'append(s, y...)': what it answers and leaves. -/
theorem run_append_rows {α : Type} (E : Rep α) {w : World} (t ty e : TypeId) (i : TypeInfo) (z : Value) (bytes : Nat) (ht : Try.prog.underlying t = some (.slice e)) (hi : Try.prog.info? e = some i) (hz : i.zero = some z) (hsize : i.size = E.size) (hby : i.bytes = bytes) (hzs : z.cells.size = E.size) (hpos : 0 < E.size)
    (hone : ∀ {s : Bool} {w : World} {ys : List Value} {x : α} {F : Addr → Prop}, E.rd s w ys x F → ∀ u ∈ ys, u.oneCell' = true)
    (s : Bool) (base : Nat) (v : Value) (l : List α) (G : Addr → Prop) (hown : OwnRd E e s base w v l G) (A : Option Addr) (n cap : Nat) (m : List α) (F : Addr → Prop) (hrow : RowRd E s w (.slice A n cap) m F)
    (hF : ∀ a, F a → a.block < w.heap.size ∧ v.ownBlock ≠ some a.block) (hd : s = true → ∀ a, F a → ¬ G a) (hn : l.length ≤ 1000000) (hm : m.length ≤ 1000000) (hbb : bytes ≤ 100) (hbase : base ≤ w.heap.size) :
    ∃ v' w', (Builtin.append_ #[t, t] ty #[v, .slice A n cap]).run Try.prog w = .ok v' w' ∧ OwnRd E e s base w' v' (l ++ m) (fun a => G a ∨ F a) ∧ OwnRd E e s base w' v l G ∧ Below base w w' ∧
      (∀ k, k < w.heap.size → v.ownBlock ≠ some k → w'.heap[k]? = w.heap[k]? ∧ v'.ownBlock ≠ some k) ∧ (v'.ownBlock = v.ownBlock ∨ ∀ k, v'.ownBlock = some k → w.heap.size ≤ k) := by
  have hown0 := hown
  obtain ⟨cells, Fk, ho1, he⟩ := hown
  have hcl : cells.length = l.length * E.size := ho1.1
  obtain ⟨A', cap', hf⟩ := hrow.form
  cases hf
  cases A with
  | none =>
    obtain ⟨h0, h2, hmn⟩ := hrow.nil_cap
    subst h2 hmn
    refine ⟨v, w, run_append_owned_none (P := Try.prog) (w := w) base t ty e i E.size ht hi v l.length cells ho1, ?_, hown0, Below.refl _ _, fun k _ hv => ⟨rfl, hv⟩, Or.inl rfl⟩
    rw [List.append_nil]
    exact hown0.mono (fun a h => Or.inl h)
  | some p =>
    obtain ⟨ad, had, hrc⟩ : ∃ ad : Addr, p = ad ∧ ∃ news : List Value, news.length = m.length * E.size ∧ (∀ j u, news[j]? = some u → w.cell? (ad.add j) = some u) ∧ (∀ u ∈ news, u.oneCell' = true) ∧
        (∀ (k : Nat) (x : α), m[k]? = some x → ∃ ys Fx, E.rd s w ys x Fx ∧ (∀ j u, ys[j]? = some u → news[k * E.size + j]? = some u)) := by
      refine ⟨p, rfl, ?_⟩
      by_cases hme : m = []
      · subst hme
        exact ⟨[], by simp, fun j u hj => by simp at hj, fun u hu => by simp at hu, fun k x hk => by simp at hk⟩
      · have hm0 : 0 < m.length := List.length_pos_iff.2 hme
        obtain ⟨g, off, _, _, hp, _⟩ := hrow.get (List.getElem?_eq_getElem hm0)
        cases hp
        have hadd : ∀ j, (⟨g, off, none⟩ : Addr).add j = ⟨g, off + j, none⟩ := fun j => by unfold Addr.add; split <;> simp_all
        refine ⟨rowCells w g off (m.length * E.size), rowCells_len _ _ _ _, fun j u hj => ?_, fun u hu => ?_, fun k x hk => ?_⟩
        · have hjl : j < m.length * E.size := by have := (List.getElem?_eq_some_iff.1 hj).1; rwa [rowCells_len] at this
          obtain ⟨_, _, _, u', _, _, _, hc⟩ := hrow.all_cells hpos hjl
          rw [rowCells_at hjl hc] at hj
          cases hj
          rw [hadd]; exact hc
        · obtain ⟨j, hj⟩ := List.mem_iff_getElem?.1 hu
          have hjl : j < m.length * E.size := by have := (List.getElem?_eq_some_iff.1 hj).1; rwa [rowCells_len] at this
          obtain ⟨_, ys, _, u', _, hr, hyu, hc⟩ := hrow.all_cells hpos hjl
          rw [rowCells_at hjl hc] at hj
          cases hj
          exact hone hr _ (List.mem_of_getElem? hyu)
        · obtain ⟨g', off', ys, F', ha, hl', hr, _, hc⟩ := hrow.get hk
          cases ha
          refine ⟨ys, F', hr, fun j u hj => ?_⟩
          have hkm : k < m.length := (List.getElem?_eq_some_iff.1 hk).1
          have hjs : j < E.size := by rw [← hl']; exact (List.getElem?_eq_some_iff.1 hj).1
          have hin : k * E.size + j < m.length * E.size := by
            have : (k + 1) * E.size ≤ m.length * E.size := Nat.mul_le_mul_right _ hkm
            rw [Nat.succ_mul] at this
            omega
          refine rowCells_at hin ?_
          rw [← Nat.add_assoc]
          exact hc j u hj
    subst had
    obtain ⟨news, hnl, hnews, hn1, hel⟩ := hrc
    have hbyt : (l.length + m.length) * i.bytes ≤ 140737488355328 := by rw [hby]; exact Nat.le_trans (Nat.mul_le_mul (Nat.add_le_add hn hm) hbb) (by omega)
    rw [← hsize] at hnl ho1
    obtain ⟨v', w', hr, q1, q2, _, q4⟩ := run_append_own_at (P := Try.prog) w base t ty e i z i.size i.bytes ht hi hz rfl rfl (hzs.trans hsize.symm) (hsize ▸ hpos) v l.length cells ho1 p m.length cap news hnl hnews hn1 (by unfold maxLen; omega) hbyt hbase
    have hold := append_old base t ty e i z ht hi hz (hsize ▸ hpos) v l.length cells ho1 p m.length cap news hnl hnews hn1 (by unfold maxLen; omega) hbyt hr
    rw [hsize] at q1 hold
    have hkeep : ∀ k, k < w.heap.size → v.ownBlock ≠ some k → w'.heap[k]? = w.heap[k]? ∧ v'.ownBlock ≠ some k := fun k hk hv => by
      refine ⟨q2.block k hk (fun e => hv e.symm), ?_⟩
      rcases q4 with q4 | q4
      · rw [q4]; exact hv
      · rw [q4]; simp; omega
    have hfr : ∀ (H : Addr → Prop), (∀ a, H a → a.block < w.heap.size ∧ v.ownBlock ≠ some a.block) → ∀ a, H a → w'.cell? a = w.cell? a ∧ w'.frozen? a = w.frozen? a := fun H hH a ha =>
      ⟨World.cell?_of_block (w := w) (hkeep _ (hH a ha).1 (hH a ha).2).1, World.frozen?_of_block (w := w) (hkeep _ (hH a ha).1 (hH a ha).2).1⟩
    have hel0 : ∀ k x, l[k]? = some x → ∃ ys : List Value, (∀ j u, ys[j]? = some u → cells[k * E.size + j]? = some u) ∧ E.rd s w' ys x (Fk k) ∧ (∀ a, Fk k a → G a ∧ a.block < w.heap.size ∧ v.ownBlock ≠ some a.block) ∧ (s = true → ∀ k', k' < l.length → k' ≠ k → ∀ a, Fk k a → ¬ Fk k' a) := fun k x hk => by
      obtain ⟨ys, h1, h2, h3, h4⟩ := he k x hk
      exact ⟨ys, h1, E.frame h2 (hfr _ fun a ha => (h3 a ha).2), h3, h4⟩
    refine ⟨v', w', hr, ?_, ⟨cells, Fk, hold, fun k x hk => ?_⟩, (Below.refl _ _).grown q2 hbase (fun q hq => (ho1.lt q hq).1), hkeep, ?_⟩
    · obtain ⟨A2, cap2, Fm, hv2, hmx, hme⟩ := hrow
      cases hv2
      refine ⟨cells ++ news, fun k => if k < l.length then Fk k else Fm (k - l.length), by rw [List.length_append]; exact q1, fun k x hk => ?_⟩
      by_cases hkl : k < l.length
      · rw [List.getElem?_append_left hkl] at hk
        obtain ⟨ys, h1, h2, h3, h4⟩ := hel0 k x hk
        refine ⟨ys, fun j u hj => ?_, ?_, ?_, ?_⟩
        · have := h1 j u hj
          rw [List.getElem?_append_left (List.getElem?_eq_some_iff.1 this).1]; exact this
        · simp only [if_pos hkl]; exact h2
        · simp only [if_pos hkl]
          exact fun a ha => ⟨Or.inl (h3 a ha).1, Nat.lt_of_lt_of_le (h3 a ha).2.1 q2.size, (hkeep _ (h3 a ha).2.1 (h3 a ha).2.2).2⟩
        · intro hs k' hk' hne a ha
          simp only [if_pos hkl] at ha
          by_cases hk2 : k' < l.length
          · simp only [if_pos hk2]; exact h4 hs k' hk2 hne a ha
          · simp only [if_neg hk2]
            intro hf
            rw [List.length_append] at hk'
            obtain ⟨_, _, _, _, _, hFm, _⟩ := hme (k' - l.length) _ (List.getElem?_eq_getElem (by omega))
            exact hd hs a (hFm a hf) (h3 a ha).1
      · rw [List.getElem?_append_right (by omega)] at hk
        obtain ⟨g2, off2, ys, hA2, hrd, hFm, hcs, hap⟩ := hme _ _ hk
        obtain ⟨ys2, Fx2, hrd2, hn2⟩ := hel _ _ hk
        refine ⟨ys, fun j u hj => ?_, ?_, ?_, ?_⟩
        · have hkm : k - l.length < m.length := (List.getElem?_eq_some_iff.1 hk).1
          have hjs : j < E.size := by rw [← E.len hrd]; exact (List.getElem?_eq_some_iff.1 hj).1
          have hsub : k * E.size + j - l.length * E.size = (k - l.length) * E.size + j := by
            have h1 : k * E.size = (k - l.length) * E.size + l.length * E.size := by rw [← Nat.add_mul, Nat.sub_add_cancel (by omega)]
            omega
          have hge : l.length * E.size ≤ k * E.size + j := by
            have : l.length * E.size ≤ k * E.size := Nat.mul_le_mul_right _ (by omega)
            omega
          rw [List.getElem?_append_right (by omega), hcl, hsub]
          obtain ⟨u2, hu2⟩ : ∃ u2, ys2[j]? = some u2 := ⟨_, List.getElem?_eq_getElem (by rw [E.len hrd2]; exact hjs)⟩
          have h5 := hn2 j u2 hu2
          have hpe := hnews _ _ h5
          have hc := (hcs j u hj).1
          have hA3 := Option.some.inj hA2
          subst hA3
          rw [addr_add, ← Nat.add_assoc] at hpe
          rw [hc] at hpe
          rw [h5, hpe]
        · simp only [if_neg hkl]
          exact E.frame hrd (hfr _ fun a ha => hF a (hFm a ha))
        · simp only [if_neg hkl]
          exact fun a ha => ⟨Or.inr (hFm a ha), Nat.lt_of_lt_of_le (hF a (hFm a ha)).1 q2.size, (hkeep _ (hF a (hFm a ha)).1 (hF a (hFm a ha)).2).2⟩
        · intro hs k' hk' hne a ha
          simp only [if_neg hkl] at ha
          by_cases hk2 : k' < l.length
          · simp only [if_pos hk2]
            obtain ⟨_, _, _, q3, _⟩ := hel0 k' _ (List.getElem?_eq_getElem hk2)
            exact fun hf => hd hs a (hFm a ha) (q3 a hf).1
          · simp only [if_neg hk2]
            rw [List.length_append] at hk'
            exact (hap hs).2 (k' - l.length) (by omega) (by omega) a ha
    · obtain ⟨ys, h1, h2, h3, h4⟩ := hel0 k x hk
      exact ⟨ys, h1, h2, fun a ha => ⟨(h3 a ha).1, Nat.lt_of_lt_of_le (h3 a ha).2.1 q2.size, (h3 a ha).2.2⟩, h4⟩
    · rcases q4 with q4 | q4
      · exact Or.inl q4
      · exact Or.inr fun k hk => by rw [q4] at hk; cases hk; simp
/-- The same, at an operation of a region that draws its order. -/
theorem step_append_rows {α : Type} (E : Rep α) {ops : Array Oper} {o : Oper} {a : Act} {K : Act → World → Prop} {Q : Exit → Act → World → Prop} {Z : Prop} (w : World) (hgd : o.guard = none) (sl y : Operand) (t e : TypeId) (i : TypeInfo) (z : Value) (bytes : Nat)
    (ho : o.op = .call { callee := .builtin .append, args := #[sl, y], argTypes := #[t, t] }) (ht : Try.prog.underlying t = some (.slice e)) (hi : Try.prog.info? e = some i) (hz : i.zero = some z) (hsize : i.size = E.size) (hby : i.bytes = bytes) (hzs : z.cells.size = E.size) (hpos : 0 < E.size)
    (hone : ∀ {s : Bool} {w : World} {ys : List Value} {x : α} {F : Addr → Prop}, E.rd s w ys x F → ∀ u ∈ ys, u.oneCell' = true)
    (s : Bool) (base : Nat) (v : Value) (l : List α) (G : Addr → Prop) (hown : OwnRd E e s base w v l G) (A : Option Addr) (n cap : Nat) (m : List α) (F : Addr → Prop) (hrow : RowRd E s w (.slice A n cap) m F)
    (hF : ∀ a, F a → a.block < w.heap.size ∧ v.ownBlock ≠ some a.block) (hd : s = true → ∀ a, F a → ¬ G a) (hn : l.length ≤ 1000000) (hm : m.length ≤ 1000000) (hbb : bytes ≤ 100) (hbase : base ≤ w.heap.size)
    (hs : a.eval sl = v) (hy : a.eval y = .slice A n cap)
    (h : ∀ v' w', OwnRd E e s base w' v' (l ++ m) (fun a => G a ∨ F a) → OwnRd E e s base w' v l G → Below base w w' → (∀ k, k < w.heap.size → v.ownBlock ≠ some k → w'.heap[k]? = w.heap[k]? ∧ v'.ownBlock ≠ some k) → (v'.ownBlock = v.ownBlock ∨ ∀ k, v'.ownBlock = some k → w.heap.size ≤ k) → K (a.put o.dst v') w') :
    if Region.wanted o (yielded ops a.tmps) = true then Oper.wp Try.prog o a w K Q else Z := by
  have hw : Region.wanted o (yielded ops a.tmps) = true := by simp [Region.wanted, hgd]
  rw [if_pos hw]
  obtain ⟨v', w', hr, h1, h2, h3, h4, h5⟩ := run_append_rows E (w := w) t o.type e i z bytes ht hi hz hsize hby hzs hpos hone s base v l G hown A n cap m F hrow hF hd hn hm hbb hbase
  unfold Oper.wp execOp
  simp only [ho, resolve, invoke, builtin, Sem.run_bind, Sem.run_pure, Result.andThen_ok, List.map_toArray, List.map_cons, List.map_nil, hs, hy, hr]
  exact h v' w' h1 h2 h3 h4 h5
end Go.Proofs.Ytnildbalaedlgaa
