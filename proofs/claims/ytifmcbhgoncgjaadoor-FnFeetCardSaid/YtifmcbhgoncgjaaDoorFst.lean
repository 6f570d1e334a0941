/- The program's filling: the state that it keeps. -/
import Derived.Test.YtifmcbhgoncgjaaDoorIf5f
import Derived.Test.YtifmcbhgoncgjaaDoorFw
import Derived.Test.YtifmcbhgoncgjaaDoorRb
namespace Go.Proofs.YtifmcbhgoncgjaaDoor
open Go.RowKit
set_option linter.unusedVariables false
set_option linter.unusedSimpArgs false

section
variable {α : Type} {E : Rep α} {e : TypeId} {s : Bool} {base : Nat} {w w' : World} {v v2 : Value} {r m : List α} {G G2 G3 : Addr → Prop}
/-- The shorter row of the same block, after the longer one has been kept elsewhere. -/
theorem OwnRd.back (h1 : OwnRd E e s base w v r G) (h2 : OwnRd E e s base w v2 (r ++ m) G2) (h3 : OwnRd E e s base w' v2 (r ++ m) G3) (hv : v2.ownBlock = v.ownBlock) : OwnRd E e s base w' v r G3 := by
  obtain ⟨c1, F1, o1, q1⟩ := h1
  obtain ⟨c2, F2, o2, q2⟩ := h2
  obtain ⟨c3, F3, o3, q3⟩ := h3
  rcases o1.2 with ⟨rfl, h0⟩ | ⟨g, cap, cur, rfl, hb, hg, hn, hm, hs, ht⟩
  · have : r = [] := List.eq_nil_of_length_eq_zero h0
    subst this
    exact OwnRd.nil _ _
  · rcases o2.2 with ⟨rfl, _⟩ | ⟨g2, cap2, cur2, rfl, hb2, hg2, hn2, hm2, hs2, ht2⟩
    · simp [Value.ownBlock] at hv
    · simp only [Value.ownBlock, Option.some.injEq] at hv
      subst hv
      rw [hg] at hg2
      cases hg2
      rcases o3.2 with ⟨h, _⟩ | ⟨g3, cap3, cur3, hv3, hb3, hg3, hn3, hm3, hs3, ht3⟩
      · cases h
      · cases hv3
        rw [List.length_append] at ht3 hn3
        have hle : r.length * E.size ≤ (r.length + m.length) * E.size := Nat.mul_le_mul_right _ (Nat.le_add_right _ _)
        have hcap : cap * E.size = cap2 * E.size := hs.symm.trans hs2
        have hlen3 : cur3.toList.length = cap2 * E.size := by rw [Array.length_toList]; exact hs3
        have hfit : r.length * E.size ≤ cur3.toList.length := by
          rw [hlen3, ← hcap]
          exact Nat.mul_le_mul_right _ hn
        refine ⟨cur3.toList.take (r.length * E.size), F3, ⟨by rw [List.length_take]; omega, Or.inr ⟨_, cap, cur3, rfl, hb, hg3, hn, hm, hs3.trans hcap.symm, rfl⟩⟩, fun k x hk => ?_⟩
        have hkl : k < r.length := (List.getElem?_eq_some_iff.1 hk).1
        obtain ⟨ys, p1, p2, p3, p4⟩ := q3 k x (by rw [List.getElem?_append_left hkl]; exact hk)
        refine ⟨ys, fun j u hj => ?_, p2, fun a ha => ?_, fun hs' k' hk' hne a ha => p4 hs' k' (by rw [List.length_append]; omega) hne a ha⟩
        · have hjs : j < E.size := by rw [← E.len p2]; exact (List.getElem?_eq_some_iff.1 hj).1
          have hin : k * E.size + j < r.length * E.size := by
            have : (k + 1) * E.size ≤ r.length * E.size := Nat.mul_le_mul_right _ hkl
            rw [Nat.succ_mul] at this
            omega
          have h5 := p1 j u hj
          rw [← ht3, List.getElem?_take_of_lt (by omega)] at h5
          rw [List.getElem?_take_of_lt hin]
          exact h5
        · exact ⟨(p3 a ha).1, (p3 a ha).2.1, by simpa [Value.ownBlock] using (p3 a ha).2.2⟩
end
def fillV (b2 b3 b4 : Nat) : Value := .func (.func 35) #[] #[.pointer (some ⟨b2, 0, none⟩), .pointer (some ⟨b3, 0, none⟩), .pointer (some ⟨b4, 0, none⟩)]
/-- What the filling stands on: the boxes of n, of the list and of the function itself; the list; the feet so far. -/
structure FSt (base b2 b3 b4 N : Nat) (w : World) (u : Value) (L : List DFooting) (G : Addr → Prop) (v : Value) (r : List DFoot) : Prop where
  bn : InC w b2 #[.int .i64 (N : Int)] 3
  bl : InC w b3 #[u] 26
  bf : InC w b4 #[fillV b2 b3 b4] 56
  lt : b2 < base ∧ b3 < base ∧ b4 < base ∧ b2 ≠ b3 ∧ b4 ≠ b3
  own : OwnRd rFooting 31 true base w u L G
  feet : OwnRd rFoot 53 true base w v r (fun _ => False)
  far : ∀ a, G a → base ≤ a.block ∧ a.block < w.heap.size ∧ v.ownBlock ≠ some a.block
  part : ∀ k, u.ownBlock = some k → v.ownBlock ≠ some k
  lo : base ≤ w.heap.size
theorem FSt.kept {base b2 b3 b4 N : Nat} {w w' : World} {u v : Value} {L : List DFooting} {G : Addr → Prop} {r : List DFoot} (h : FSt base b2 b3 b4 N w u L G v r) (hb : Below w.heap.size w w') : FSt base b2 b3 b4 N w' u L G v r :=
  ⟨h.bn.kept hb, h.bl.kept hb, h.bf.kept hb, h.lt, h.own.kept hb, h.feet.kept hb, fun a ha => ⟨(h.far a ha).1, Nat.lt_of_lt_of_le (h.far a ha).2.1 hb.size, (h.far a ha).2.2⟩, h.part, Nat.le_trans h.lo hb.size⟩
/-- What else stands as it was. -/
structure Fr (b3 : Nat) (u v : Value) (w w' : World) : Prop where
  os : w'.os = w.os
  tape : w'.tape = w.tape
  output : w'.output = w.output
  size : w.heap.size ≤ w'.heap.size
  block : ∀ k, k < w.heap.size → k ≠ b3 → u.ownBlock ≠ some k → v.ownBlock ≠ some k → w'.heap[k]? = w.heap[k]?
theorem Fr.of_below {b3 : Nat} {u v : Value} {w w' : World} (hb : Below w.heap.size w w') : Fr b3 u v w w' := ⟨hb.os, hb.tape, hb.output, hb.size, fun k hk _ _ _ => hb.block k hk⟩
/-- From w on, L' has been laid: u' is where the list lies. -/
structure FTo (base b2 b3 b4 N : Nat) (w : World) (u : Value) (G : Addr → Prop) (v : Value) (r : List DFoot) (u' : Value) (L' : List DFooting) (w' : World) : Prop where
  st : FSt base b2 b3 b4 N w' u' L' (fun a => G a ∨ w.heap.size ≤ a.block ∧ a.block < w'.heap.size) v r
  fr : Fr b3 u v w w'
  mv : u'.ownBlock = u.ownBlock ∨ ∀ k, u'.ownBlock = some k → w.heap.size ≤ k
section
variable {base b2 b3 b4 N : Nat} {w w1 w2 w3 : World} {u u1 u2 v v2 : Value} {L L1 L2 : List DFooting} {G : Addr → Prop} {r : List DFoot} {x : DFoot}
theorem FTo.refl (h : FSt base b2 b3 b4 N w u L G v r) : FTo base b2 b3 b4 N w u G v r u L w where
  st := ⟨h.bn, h.bl, h.bf, h.lt, h.own.mono fun a ha => Or.inl ha, h.feet, fun a ha => ha.elim (h.far a) fun h2 => absurd h2.1 (Nat.not_le.2 h2.2), h.part, h.lo⟩
  fr := Fr.of_below (Below.refl _ _)
  mv := Or.inl rfl
theorem FTo.trans (h1 : FTo base b2 b3 b4 N w u G v r u1 L1 w1) (h2 : FTo base b2 b3 b4 N w1 u1 (fun a => G a ∨ w.heap.size ≤ a.block ∧ a.block < w1.heap.size) v r u2 L2 w2) : FTo base b2 b3 b4 N w u G v r u2 L2 w2 where
  st := by
    have hs1 := h1.fr.size
    have hs2 := h2.fr.size
    have e : ∀ a : Addr, (((G a ∨ w.heap.size ≤ a.block ∧ a.block < w1.heap.size) ∨ w1.heap.size ≤ a.block ∧ a.block < w2.heap.size) → (G a ∨ w.heap.size ≤ a.block ∧ a.block < w2.heap.size)) := fun a ha => by
      rcases ha with (ha | ha) | ha
      · exact Or.inl ha
      · exact Or.inr ⟨ha.1, by omega⟩
      · exact Or.inr ⟨by omega, ha.2⟩
    refine ⟨h2.st.bn, h2.st.bl, h2.st.bf, h2.st.lt, h2.st.own.mono e, h2.st.feet, fun a ha => ?_, h2.st.part, h2.st.lo⟩
    have h3 := h1.st.far a
    have h4 := h2.st.far a
    rcases ha with ha | ha
    · exact h4 (Or.inl (Or.inl ha))
    · by_cases hlt : a.block < w1.heap.size
      · exact h4 (Or.inl (Or.inr ⟨ha.1, hlt⟩))
      · exact h4 (Or.inr ⟨by omega, ha.2⟩)
  fr := by
    refine ⟨h2.fr.os.trans h1.fr.os, h2.fr.tape.trans h1.fr.tape, h2.fr.output.trans h1.fr.output, Nat.le_trans h1.fr.size h2.fr.size, fun k hk h3 hu hv => ?_⟩
    refine (h2.fr.block k (Nat.lt_of_lt_of_le hk h1.fr.size) h3 (fun e => ?_) hv).trans (h1.fr.block k hk h3 hu hv)
    rcases h1.mv with h | h
    · exact hu (h ▸ e)
    · have := h k e; omega
  mv := by
    have hs1 := h1.fr.size
    rcases h2.mv with h | h
    · rcases h1.mv with h' | h'
      · exact Or.inl (h.trans h')
      · exact Or.inr fun k hk => h' k (h ▸ hk)
    · exact Or.inr fun k hk => by have := h k hk; omega
/-- A world behind the first one. -/
theorem FTo.pre (h0 : FSt base b2 b3 b4 N w u L G v r) (hb : Below w.heap.size w w1) (h : FTo base b2 b3 b4 N w1 u G v r u2 L2 w2) : FTo base b2 b3 b4 N w u G v r u2 L2 w2 where
  st := by
    have hs1 := hb.size
    refine ⟨h.st.bn, h.st.bl, h.st.bf, h.st.lt, h.st.own.mono fun a ha => ha.elim Or.inl fun h2 => Or.inr ⟨by omega, h2.2⟩, h.st.feet, fun a ha => ?_, h.st.part, h.st.lo⟩
    rcases ha with ha | ha
    · exact h.st.far a (Or.inl ha)
    · refine ⟨Nat.le_trans h0.lo ha.1, ha.2, fun e => ?_⟩
      have := (OwnRd.lt h0.feet _ e).2
      omega
  fr := ⟨h.fr.os.trans hb.os, h.fr.tape.trans hb.tape, h.fr.output.trans hb.output, Nat.le_trans hb.size h.fr.size, fun k hk h3 hu hv => (h.fr.block k (Nat.lt_of_lt_of_le hk hb.size) h3 hu hv).trans (hb.block k hk)⟩
  mv := h.mv.imp id fun h2 k hk => Nat.le_trans hb.size (h2 k hk)
/-- The list grows by what a call has laid, and its box takes it. -/
theorem FTo.laid {m : List DFooting} {F : Addr → Prop} (h0 : FSt base b2 b3 b4 N w u L G v r) (hF : ∀ a, F a → w.heap.size ≤ a.block ∧ a.block < w1.heap.size) (hb1 : Below w.heap.size w w1)
    (hown : OwnRd rFooting 31 true base w2 u2 (L ++ m) (fun a => G a ∨ F a)) (hb : Below base w1 w2) (hk : ∀ k, k < w1.heap.size → u.ownBlock ≠ some k → w2.heap[k]? = w1.heap[k]? ∧ u2.ownBlock ≠ some k)
    (hm : u2.ownBlock = u.ownBlock ∨ ∀ k, u2.ownBlock = some k → w1.heap.size ≤ k) : FTo base b2 b3 b4 N w u G v r u2 (L ++ m) (w2.setCell ⟨b3, 0, none⟩ u2) := by
  have hs1 := hb1.size
  have hs2 := hb.size
  have hlo := h0.lo
  have hl := h0.lt
  have hub : ∀ k, k < base → u.ownBlock ≠ some k := fun k hk e => by have := (OwnRd.lt h0.own _ e).1; omega
  have hu2b : ∀ k, k < base → u2.ownBlock ≠ some k := fun k hk e => by have := (OwnRd.lt hown _ e).1; omega
  have hst1 := h0.kept hb1
  have hin : ∀ {k : Nat} {cs : Array Value} {t : TypeId}, k < base → InC w1 k cs t → InC w2 k cs t := fun hk h => h.keptB hb hk
  have hset : ∀ k, k ≠ b3 → (w2.setCell ⟨b3, 0, none⟩ u2).heap[k]? = w2.heap[k]? := fun k hk => Below.heap_setCell w2 ⟨b3, 0, none⟩ u2 k hk
  have hsz : (w2.setCell ⟨b3, 0, none⟩ u2).heap.size = w2.heap.size := by simp [World.setCell]
  have hfeet : OwnRd rFoot 53 true base w2 v r (fun _ => False) := hst1.feet.frame (fun k hk' => (hk k (OwnRd.lt hst1.feet _ hk').2 (fun e => hst1.part k e hk')).1) (fun a ha => ha.elim) hs2
  have hG : ∀ a, (G a ∨ F a) → base ≤ a.block ∧ a.block < w1.heap.size ∧ v.ownBlock ≠ some a.block := fun a ha => by
    rcases ha with ha | ha
    · have := h0.far a ha
      exact ⟨this.1, by omega, this.2.2⟩
    · have := hF a ha
      refine ⟨by omega, this.2, fun e => ?_⟩
      have := (OwnRd.lt h0.feet _ e).2
      omega
  refine ⟨⟨(hin hl.1 hst1.bn).other (by simp; omega) _, ?_, (hin hl.2.2.1 hst1.bf).other (by simp; omega) _, hl, ?_, ?_, ?_, ?_, by omega⟩, ?_, ?_⟩
  · have h3 := hin hl.2.1 hst1.bl
    unfold InC at h3 ⊢
    rw [Go.Lib.heap_setCell_same h3]
    rfl
  · refine (hown.mono (G' := fun a => G a ∨ w.heap.size ≤ a.block ∧ a.block < (w2.setCell ⟨b3, 0, none⟩ u2).heap.size) fun a ha => ?_).frame (fun k hk' => hset k fun e => ?_) (fun a ha hlt _ => hset _ ?_) (by omega)
    · rcases ha with ha | ha
      · exact Or.inl ha
      · have := hF a ha; exact Or.inr ⟨this.1, by omega⟩
    · subst e; exact hu2b _ hl.2.1 hk'
    · rcases ha with ha | ha
      · have := (h0.far a ha).1; omega
      · omega
  · exact hfeet.frame (fun k hk' => hset k fun e => by subst e; have := (OwnRd.lt hfeet _ hk').1; omega) (fun a ha => ha.elim) (by omega)
  · intro a ha
    rcases ha with ha | ha
    · have := h0.far a ha
      exact ⟨this.1, by omega, this.2.2⟩
    · refine ⟨by omega, ha.2, fun e => ?_⟩
      have := (OwnRd.lt h0.feet _ e).2
      omega
  · intro k hk1 hk2
    rcases hm with h | h
    · exact h0.part k (h ▸ hk1) hk2
    · have := h k hk1
      have := (OwnRd.lt h0.feet _ hk2).2
      omega
  · exact ⟨(hb.os.trans hb1.os), (hb.tape.trans hb1.tape), (hb.output.trans hb1.output), by omega, fun k hk1 hk2 hk3 _ => (hset k hk2).trans ((hk k (by omega) hk3).1.trans (hb1.block k hk1))⟩
  · exact hm.imp id fun h k hk => by have := h k hk; omega
/-- A foot is put behind the feet. -/
theorem FSt.push (h : FSt base b2 b3 b4 N w u L G v r) (hown : OwnRd rFoot 53 true base w2 v2 (r ++ [x]) (fun _ => False)) (hb : Below base w w2)
    (hk : ∀ k, k < w.heap.size → v.ownBlock ≠ some k → w2.heap[k]? = w.heap[k]? ∧ v2.ownBlock ≠ some k) (hm : v2.ownBlock = v.ownBlock ∨ ∀ k, v2.ownBlock = some k → w.heap.size ≤ k) : FSt base b2 b3 b4 N w2 u L G v2 (r ++ [x]) := by
  have hl := h.lt
  have hs := hb.size
  refine ⟨h.bn.keptB hb hl.1, h.bl.keptB hb hl.2.1, h.bf.keptB hb hl.2.2.1, hl, ?_, hown, fun a ha => ?_, fun k hk1 hk2 => ?_, Nat.le_trans h.lo hs⟩
  · exact h.own.frame (fun k hk' => (hk k (OwnRd.lt h.own _ hk').2 (h.part k hk')).1) (fun a ha _ _ => (hk _ (h.far a ha).2.1 (h.far a ha).2.2).1) hs
  · have := h.far a ha
    exact ⟨this.1, by omega, (hk _ this.2.1 this.2.2).2⟩
  · rcases hm with hm | hm
    · exact h.part k hk1 (hm ▸ hk2)
    · have := hm k hk2
      have := (OwnRd.lt h.own _ hk1).2
      omega
/-- A foot is put behind the feet, and the filling goes on with it; then the feet are as they were. -/
theorem FTo.foot (h : FSt base b2 b3 b4 N w u L G v r) (hown : OwnRd rFoot 53 true base w2 v2 (r ++ [x]) (fun _ => False)) (hold : OwnRd rFoot 53 true base w2 v r (fun _ => False)) (hb : Below base w w2)
    (hk : ∀ k, k < w.heap.size → v.ownBlock ≠ some k → w2.heap[k]? = w.heap[k]? ∧ v2.ownBlock ≠ some k) (hm : v2.ownBlock = v.ownBlock ∨ ∀ k, v2.ownBlock = some k → w.heap.size ≤ k)
    (hc : FTo base b2 b3 b4 N w2 u G v2 (r ++ [x]) u2 L2 w3) : FTo base b2 b3 b4 N w u G v r u2 L2 w3 := by
  have hl := h.lt
  have hs := hb.size
  have hs3 := hc.fr.size
  have hlo := h.lo
  have hfeet : OwnRd rFoot 53 true base w3 v r (fun _ => False) := by
    rcases hm with hm | hm
    · exact hold.back hown hc.st.feet hm
    · refine hold.frame (fun k hk' => ?_) (fun a ha => ha.elim) hs3
      have h1 := OwnRd.lt h.feet _ hk'
      exact hc.fr.block k (by omega) (by omega) (fun e => h.part k e hk') (fun e => by have := hm k e; omega)
  refine ⟨⟨hc.st.bn, hc.st.bl, hc.st.bf, hl, hc.st.own.mono fun a ha => ha.elim Or.inl fun h2 => Or.inr ⟨by omega, h2.2⟩, hfeet, fun a ha => ?_, fun k hk1 hk2 => ?_, hc.st.lo⟩, ?_, hc.mv.imp id fun h2 k hk => by have := h2 k hk; omega⟩
  · rcases ha with ha | ha
    · have := h.far a ha
      exact ⟨this.1, by omega, this.2.2⟩
    · refine ⟨by omega, ha.2, fun e => ?_⟩
      have := (OwnRd.lt h.feet _ e).2
      omega
  · have h1 := OwnRd.lt h.feet _ hk2
    rcases hc.mv with h2 | h2
    · exact h.part k (h2 ▸ hk1) hk2
    · have := h2 k hk1; omega
  · exact ⟨hc.fr.os.trans hb.os, hc.fr.tape.trans hb.tape, hc.fr.output.trans hb.output, by omega, fun k h1 h2 h3 h4 => (hc.fr.block k (by omega) h2 h3 (hk k h1 h4).2).trans (hk k h1 h4).1⟩
end
end Go.Proofs.YtifmcbhgoncgjaaDoor
