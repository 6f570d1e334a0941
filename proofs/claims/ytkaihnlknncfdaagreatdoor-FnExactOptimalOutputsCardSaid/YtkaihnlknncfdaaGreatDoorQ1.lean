/- Merged: Rp Op OpS TrLink TrCandidate Math Ret Row Snd. -/
import Derived.WalkKit
import Derived.Lib.Hide
import Derived.Laws.Rows
import Derived.Outline
import Derived.Maps.AppendAt
import Derived.Test.YtkaihnlknncfdaaGreatDoorRows
import Derived.Deep.Slices
import Derived.Lib.SmallJoins
import Derived.ChangeSame
import Derived.Test.YtkaihnlknncfdaaGreatDoorProg
import Derived.Laws.IdiomStrings
import Derived.Laws.BytesArg
import Derived.Lib.Bytealg
/- Data in memory: what the cells of a value stand for, and the places that it owns. -/
namespace Go.Proofs.YtkaihnlknncfdaaGreatDoor
set_option maxRecDepth 100000
open Go.RowKit
set_option linter.unusedVariables false

/-- How data of one kind lies in cells: 'rd s w vs x F': in the world w the cells vs stand for x; what they lead to lies within F; with s nothing of it overlaps and all of it can be written. -/
structure Rep (α : Type) where
  size : Nat
  rd : Bool → World → List Value → α → (Addr → Prop) → Prop
  lab : Nat → α → α
  labv : Nat → α → α
  cnt : α → Nat
  cntv : α → Nat
  sz : α → Nat
  len : ∀ {s w vs x F}, rd s w vs x F → vs.length = size
  frame : ∀ {s w w' vs x F}, rd s w vs x F → (∀ a, F a → w'.cell? a = w.cell? a ∧ w'.frozen? a = w.frozen? a) → rd s w' vs x F
  weak : ∀ {s w vs x F}, rd s w vs x F → rd false w vs x F
  mono : ∀ {s w vs x F G}, rd s w vs x F → (∀ a, F a → G a) → rd s w vs x G
  tight : ∀ {s w vs x F}, rd s w vs x F → rd s w vs x (fun a => F a ∧ a.block < w.heap.size)
def I64 (z : Int) : Prop := -9223372036854775808 ≤ z ∧ z ≤ 9223372036854775807
def Rep.int : Rep Int where
  size := 1
  rd := fun _ _ vs z _ => vs = [.int .i64 z] ∧ I64 z
  lab := fun k _ => (k : Int)
  labv := fun _ z => z
  cnt := fun _ => 1
  cntv := fun _ => 0
  sz := fun _ => 0
  len := fun h => by rw [h.1]; rfl
  frame := fun h _ => h
  weak := fun h => h
  mono := fun h _ => h
  tight := fun h => h
def Rep.byte : Rep UInt8 where
  size := 1
  rd := fun _ _ vs z _ => vs = [.int .u8 (z.toNat : Int)]
  lab := fun k _ => UInt8.ofNat k
  labv := fun _ z => z
  cnt := fun _ => 1
  cntv := fun _ => 0
  sz := fun _ => 0
  len := fun h => by rw [h]; rfl
  frame := fun h _ => h
  weak := fun h => h
  mono := fun h _ => h
  tight := fun h => h
def Rep.bool : Rep Bool where
  size := 1
  rd := fun _ _ vs z _ => vs = [.bool z]
  lab := fun k _ => decide (k % 3 = 0)
  labv := fun _ z => z
  cnt := fun _ => 1
  cntv := fun _ => 0
  sz := fun _ => 0
  len := fun h => by rw [h]; rfl
  frame := fun h _ => h
  weak := fun h => h
  mono := fun h _ => h
  tight := fun h => h
/-- Texts; m: the laws' marks. -/
def Rep.str (m : Nat → ByteArray) : Rep ByteArray where
  size := 1
  rd := fun _ _ vs z _ => vs = [.string z] ∧ z.size ≤ 9223372036854775807
  lab := fun k _ => m k
  labv := fun _ z => z
  cnt := fun _ => 1
  cntv := fun _ => 0
  sz := fun z => z.size
  len := fun h => by rw [h.1]; rfl
  frame := fun h _ => h
  weak := fun h => h
  mono := fun h _ => h
  tight := fun h => h
def Rep.pair {α β : Type} (A : Rep α) (B : Rep β) : Rep (α × β) where
  size := A.size + B.size
  rd := fun s w vs x F => ∃ xs ys F1 F2, vs = xs ++ ys ∧ A.rd s w xs x.1 F1 ∧ B.rd s w ys x.2 F2 ∧ (∀ a, F1 a → F a) ∧ (∀ a, F2 a → F a) ∧ (s = true → ∀ a, F1 a → ¬ F2 a)
  lab := fun k x => (A.lab k x.1, B.lab (k + A.cnt x.1) x.2)
  labv := fun k x => (A.labv k x.1, B.labv (k + A.cntv x.1) x.2)
  cnt := fun x => A.cnt x.1 + B.cnt x.2
  cntv := fun x => A.cntv x.1 + B.cntv x.2
  sz := fun x => A.sz x.1 + B.sz x.2
  len := fun h => by obtain ⟨xs, ys, F1, F2, rfl, h1, h2, _⟩ := h; rw [List.length_append, A.len h1, B.len h2]
  frame := fun h hw => by
    obtain ⟨xs, ys, F1, F2, e, h1, h2, k1, k2, k3⟩ := h
    exact ⟨xs, ys, F1, F2, e, A.frame h1 fun a ha => hw a (k1 a ha), B.frame h2 fun a ha => hw a (k2 a ha), k1, k2, k3⟩
  weak := fun h => by
    obtain ⟨xs, ys, F1, F2, e, h1, h2, k1, k2, _⟩ := h
    exact ⟨xs, ys, F1, F2, e, A.weak h1, B.weak h2, k1, k2, fun h => by cases h⟩
  mono := fun h hg => by
    obtain ⟨xs, ys, F1, F2, e, h1, h2, k1, k2, k3⟩ := h
    exact ⟨xs, ys, F1, F2, e, h1, h2, fun a ha => hg a (k1 a ha), fun a ha => hg a (k2 a ha), k3⟩
  tight := fun h => by
    obtain ⟨xs, ys, F1, F2, e, h1, h2, k1, k2, k3⟩ := h
    exact ⟨xs, ys, _, _, e, A.tight h1, B.tight h2, fun a ha => ⟨k1 a ha.1, ha.2⟩, fun a ha => ⟨k2 a ha.1, ha.2⟩, fun hs a h1 h2 => k3 hs a h1.1 h2.1⟩
/-- A row of such data. -/
def RowRd {α : Type} (E : Rep α) (s : Bool) (w : World) (v : Value) (l : List α) (F : Addr → Prop) : Prop :=
  ∃ A cap, ∃ Fk : Nat → Addr → Prop, v = .slice A l.length cap ∧ (l.length ≤ 9223372036854775807 ∧ (A = none → cap = 0) ∧ l.length ≤ cap) ∧ ∀ k x, l[k]? = some x → ∃ g off xs, A = some ⟨g, off, none⟩ ∧ E.rd s w xs x (Fk k) ∧ (∀ a, Fk k a → F a) ∧
    (∀ j u, xs[j]? = some u → w.cell? ⟨g, off + k * E.size + j, none⟩ = some u ∧ F ⟨g, off + k * E.size + j, none⟩ ∧ (s = true → w.frozen? ⟨g, off + k * E.size + j, none⟩ = false)) ∧
    (s = true → (∀ i, i < l.length * E.size → ¬ Fk k ⟨g, off + i, none⟩) ∧ ∀ k', k' < l.length → k' ≠ k → ∀ a, Fk k a → ¬ Fk k' a)
def labRow {α : Type} (E : Rep α) : Nat → List α → List α
  | _, [] => []
  | k, x :: l => E.lab k x :: labRow E (k + E.cnt x) l
def cntRow {α : Type} (E : Rep α) (l : List α) : Nat := (l.map E.cnt).sum
def szRow {α : Type} (E : Rep α) (l : List α) : Nat := l.length + (l.map E.sz).sum
def Rep.row {α : Type} (E : Rep α) : Rep (List α) where
  size := 1
  rd := fun s w vs l F => ∃ v, vs = [v] ∧ RowRd E s w v l F
  lab := labRow E
  labv := labRow E
  cnt := cntRow E
  cntv := cntRow E
  sz := szRow E
  len := fun h => by obtain ⟨v, rfl, _⟩ := h; rfl
  frame := fun h hw => by
    obtain ⟨v, e, A, cap, Fk, hv, hl, hr⟩ := h
    refine ⟨v, e, A, cap, Fk, hv, hl, fun k x hk => ?_⟩
    obtain ⟨g, off, xs, ha, h1, h2, h3, h4⟩ := hr k x hk
    refine ⟨g, off, xs, ha, E.frame h1 fun a ha => hw a (h2 a ha), h2, fun j u hj => ?_, h4⟩
    obtain ⟨q1, q2, q3⟩ := h3 j u hj
    obtain ⟨p1, p2⟩ := hw _ q2
    exact ⟨p1.trans q1, q2, fun hs => p2.trans (q3 hs)⟩
  weak := fun h => by
    obtain ⟨v, e, A, cap, Fk, hv, hl, hr⟩ := h
    refine ⟨v, e, A, cap, Fk, hv, hl, fun k x hk => ?_⟩
    obtain ⟨g, off, xs, ha, h1, h2, h3, h4⟩ := hr k x hk
    exact ⟨g, off, xs, ha, E.weak h1, h2, fun j u hj => ⟨(h3 j u hj).1, (h3 j u hj).2.1, fun hs => by cases hs⟩, fun hs => by cases hs⟩
  mono := fun h hg => by
    obtain ⟨v, e, A, cap, Fk, hv, hl, hr⟩ := h
    refine ⟨v, e, A, cap, Fk, hv, hl, fun k x hk => ?_⟩
    obtain ⟨g, off, xs, ha, h1, h2, h3, h4⟩ := hr k x hk
    exact ⟨g, off, xs, ha, h1, fun a ha => hg a (h2 a ha), fun j u hj => ⟨(h3 j u hj).1, hg _ (h3 j u hj).2.1, (h3 j u hj).2.2⟩, h4⟩
  tight := fun {s w vs l F} h => by
    obtain ⟨v, e, A, cap, Fk, hv, hl, hr⟩ := h
    refine ⟨v, e, A, cap, fun k a => Fk k a ∧ a.block < w.heap.size, hv, hl, fun k x hk => ?_⟩
    obtain ⟨g, off, xs, ha, h1, h2, h3, h4⟩ := hr k x hk
    exact ⟨g, off, xs, ha, E.tight h1, fun a ha => ⟨h2 a ha.1, ha.2⟩, fun j u hj => ⟨(h3 j u hj).1, ⟨(h3 j u hj).2.1, block_lt_of_cell (h3 j u hj).1⟩, (h3 j u hj).2.2⟩,
      fun hs => ⟨fun i hi h => (h4 hs).1 i hi h.1, fun k' hk' hne a h1 h2 => (h4 hs).2 k' hk' hne a h1.1 h2.1⟩⟩
/-- The same data under a name of its own. -/
def Rep.map {α β : Type} (E : Rep α) (f : β → α) (g : α → β) : Rep β where
  size := E.size
  rd := fun s w vs x F => E.rd s w vs (f x) F
  lab := fun k x => g (E.lab k (f x))
  labv := fun k x => g (E.labv k (f x))
  cnt := fun x => E.cnt (f x)
  cntv := fun x => E.cntv (f x)
  sz := fun x => E.sz (f x)
  len := fun h => E.len h
  frame := fun h hw => E.frame h hw
  weak := fun h => E.weak h
  mono := fun h hg => E.mono h hg
  tight := fun h => E.tight h
/-- What is kept where nothing that was there is written. -/
theorem Rep.kept {α : Type} (E : Rep α) {s : Bool} {w w' : World} {vs : List Value} {x : α} {F : Addr → Prop} (h : E.rd s w vs x F) (hb : Below w.heap.size w w') : E.rd s w' vs x F :=
  E.mono (E.frame (E.tight h) fun a ha => ⟨hb.cell ha.2, hb.frozen ha.2⟩) fun _ ha => ha.1
section
variable {α : Type} {E : Rep α} {s : Bool} {w w' : World} {v : Value} {l : List α} {F G : Addr → Prop}
theorem RowRd.frame (h : RowRd E s w v l F) (hw : ∀ a, F a → w'.cell? a = w.cell? a ∧ w'.frozen? a = w.frozen? a) : RowRd E s w' v l F := by
  obtain ⟨v', e, hr⟩ := (Rep.row E).frame (vs := [v]) ⟨v, rfl, h⟩ hw
  cases e; exact hr
theorem RowRd.weak (h : RowRd E s w v l F) : RowRd E false w v l F := by
  obtain ⟨v', e, hr⟩ := (Rep.row E).weak (vs := [v]) ⟨v, rfl, h⟩
  cases e; exact hr
theorem RowRd.mono (h : RowRd E s w v l F) (hg : ∀ a, F a → G a) : RowRd E s w v l G := by
  obtain ⟨v', e, hr⟩ := (Rep.row E).mono (vs := [v]) ⟨v, rfl, h⟩ hg
  cases e; exact hr
theorem RowRd.tight (h : RowRd E s w v l F) : RowRd E s w v l (fun a => F a ∧ a.block < w.heap.size) := by
  obtain ⟨v', e, hr⟩ := (Rep.row E).tight (vs := [v]) ⟨v, rfl, h⟩
  cases e; exact hr
theorem RowRd.kept (h : RowRd E s w v l F) (hb : Below w.heap.size w w') : RowRd E s w' v l F := by
  obtain ⟨v', e, hr⟩ := (Rep.row E).kept (vs := [v]) ⟨v, rfl, h⟩ hb
  cases e; exact hr
theorem RowRd.nil (s : Bool) (w : World) (F : Addr → Prop) : RowRd E s w (.slice none 0 0) [] F := ⟨none, 0, fun _ _ => False, rfl, by simp, fun k x hk => by simp at hk⟩
theorem RowRd.max (h : RowRd E s w v l F) : l.length ≤ 9223372036854775807 := by
  obtain ⟨_, _, _, _, hm, _⟩ := h; exact hm.1
theorem RowRd.nil_cap {n cap : Nat} (h : RowRd E s w (.slice none n cap) l F) : n = 0 ∧ cap = 0 ∧ l = [] := by
  obtain ⟨A, cap', _, hv, hm, hr⟩ := h
  cases hv
  refine ⟨?_, hm.2.1 rfl, ?_⟩
  · rcases Nat.eq_zero_or_pos l.length with h | h
    · exact h
    · obtain ⟨g, off, xs, ha, _⟩ := hr 0 _ (List.getElem?_eq_getElem h)
      cases ha
  · rcases l with _ | ⟨x, l⟩
    · rfl
    · obtain ⟨g, off, xs, ha, _⟩ := hr 0 x rfl
      cases ha
theorem RowRd.cap_le {A : Option Addr} {n cap : Nat} (h : RowRd E s w (.slice A n cap) l F) : l.length ≤ cap := by
  obtain ⟨_, _, _, hv, hm, _⟩ := h; cases hv; exact hm.2.2
theorem RowRd.form (h : RowRd E s w v l F) : ∃ A cap, v = .slice A l.length cap := by
  obtain ⟨A, cap, _, hv, _⟩ := h; exact ⟨A, cap, hv⟩
/-- A place of a row is read. -/
theorem RowRd.get {A : Option Addr} {n cap : Nat} (h : RowRd E s w (.slice A n cap) l F) {k : Nat} {x : α} (hk : l[k]? = some x) :
    ∃ g off xs Fk, A = some ⟨g, off, none⟩ ∧ xs.length = E.size ∧ E.rd s w xs x Fk ∧ (∀ a, Fk a → F a) ∧ (∀ j u, xs[j]? = some u → w.cell? ⟨g, off + k * E.size + j, none⟩ = some u) := by
  obtain ⟨A', cap', Fk, hv, _, hr⟩ := h
  cases hv
  obtain ⟨g, off, xs, ha, h1, h2, h3, _⟩ := hr k x hk
  exact ⟨g, off, xs, Fk k, ha, E.len h1, h1, h2, fun j u hj => (h3 j u hj).1⟩
/-- A place of a row is taken out, to be written and put back. -/
theorem RowRd.take {A : Option Addr} {n cap : Nat} (h : RowRd E true w (.slice A n cap) l F) {k : Nat} {x : α} (hk : l[k]? = some x) :
    ∃ g off xs Fk, A = some ⟨g, off, none⟩ ∧ xs.length = E.size ∧ E.rd true w xs x Fk ∧ (∀ a, Fk a → F a) ∧
      (∀ j u, xs[j]? = some u → w.cell? ⟨g, off + k * E.size + j, none⟩ = some u ∧ w.frozen? ⟨g, off + k * E.size + j, none⟩ = false ∧ F ⟨g, off + k * E.size + j, none⟩ ∧ ¬ Fk ⟨g, off + k * E.size + j, none⟩) ∧
      ∀ (w' : World) (xs' : List Value) (x' : α) (F' : Addr → Prop), E.rd true w' xs' x' F' → (∀ a, F' a → Fk a ∨ ¬ F a) →
        (∀ j u, xs'[j]? = some u → w'.cell? ⟨g, off + k * E.size + j, none⟩ = some u) → (∀ j, j < E.size → w'.frozen? ⟨g, off + k * E.size + j, none⟩ = false) →
        (∀ a, F a → ¬ Fk a → (∀ j, j < E.size → a ≠ ⟨g, off + k * E.size + j, none⟩) → w'.cell? a = w.cell? a ∧ w'.frozen? a = w.frozen? a) →
        RowRd E true w' (.slice A n cap) (l.set k x') (fun a => F a ∨ F' a) := by
  obtain ⟨A', cap', Fk, hv, hmx, hr⟩ := h
  cases hv
  have hkl : k < l.length := (List.getElem?_eq_some_iff.1 hk).1
  obtain ⟨g, off, xs, ha, h1, h2, h3, h4⟩ := hr k x hk
  obtain ⟨h5, h6⟩ := h4 rfl
  have hlx := E.len h1
  have hin : ∀ j, j < E.size → k * E.size + j < l.length * E.size := fun j hj => by
    have : (k + 1) * E.size ≤ l.length * E.size := Nat.mul_le_mul_right _ hkl
    rw [Nat.succ_mul] at this
    omega
  refine ⟨g, off, xs, Fk k, ha, hlx, h1, h2, fun j u hj => ?_, ?_⟩
  · obtain ⟨q1, q2, q3⟩ := h3 j u hj
    have hj' : j < E.size := by rw [← hlx]; exact (List.getElem?_eq_some_iff.1 hj).1
    exact ⟨q1, q3 rfl, q2, by rw [Nat.add_assoc]; exact h5 _ (hin j hj')⟩
  intro w' xs' x' F' r1 r2 r3 r4 r5
  have hlx' := E.len r1
  refine ⟨A, cap, fun i => if i = k then F' else Fk i, by rw [List.length_set], by rw [List.length_set]; exact hmx, fun i y hi => ?_⟩
  by_cases hik : i = k
  · subst hik
    rw [List.getElem?_set_self hkl] at hi
    cases hi
    refine ⟨g, off, xs', ha, by simpa using r1, fun a h => by simp at h; exact Or.inr h, fun j u hj => ?_, fun _ => ⟨fun q hq => ?_, fun k' hk' hne a hf => ?_⟩⟩
    · have hj' : j < E.size := by rw [← hlx']; exact (List.getElem?_eq_some_iff.1 hj).1
      have hjx : ∃ u0, xs[j]? = some u0 := ⟨_, List.getElem?_eq_getElem (by omega)⟩
      obtain ⟨u0, hu0⟩ := hjx
      exact ⟨r3 j u hj, Or.inl (h3 j u0 hu0).2.1, fun _ => r4 j hj'⟩
    · rw [List.length_set] at hq
      simp only [if_true]
      intro hf
      rcases r2 _ hf with hf | hf
      · exact h5 q hq hf
      · -- a cell of the row lies within F
        apply hf
        have hs : 0 < E.size := by
          rcases Nat.eq_zero_or_pos E.size with h0 | h0
          · rw [h0] at hq; omega
          · exact h0
        have hq1 : q / E.size < l.length := Nat.div_lt_of_lt_mul (by rw [Nat.mul_comm]; exact hq)
        obtain ⟨g2, off2, xs2, ha2, p1, _, p3, _⟩ := hr (q / E.size) _ (List.getElem?_eq_getElem hq1)
        rw [ha] at ha2
        cases ha2
        have hq2 : q % E.size < xs2.length := by rw [E.len p1]; exact Nat.mod_lt _ hs
        have := (p3 (q % E.size) _ (List.getElem?_eq_getElem hq2)).2.1
        rwa [Nat.add_assoc, Nat.mul_comm (q / E.size), Nat.div_add_mod] at this
    · simp only [if_true] at hf
      simp only [if_neg hne]
      rw [List.length_set] at hk'
      obtain ⟨_, _, _, _, _, p2, _, _⟩ := hr k' _ (List.getElem?_eq_getElem hk')
      rcases r2 a hf with hf | hf
      · exact h6 k' hk' hne a hf
      · exact fun h => hf (p2 a h)
  · rw [List.getElem?_set_ne (Ne.symm hik)] at hi
    have hil : i < l.length := (List.getElem?_eq_some_iff.1 hi).1
    obtain ⟨g2, off2, xs2, ha2, p1, p2, p3, p4⟩ := hr i y hi
    rw [ha] at ha2
    cases ha2
    obtain ⟨p5, p6⟩ := p4 rfl
    have hl2 := E.len p1
    have keep : ∀ a, F a → ¬ Fk k a → (∀ j, j < E.size → a ≠ ⟨g, off + k * E.size + j, none⟩) → w'.cell? a = w.cell? a ∧ w'.frozen? a = w.frozen? a := r5
    refine ⟨g, off, xs2, ha, ?_, fun a h => Or.inl (p2 a (by simpa [hik] using h)), fun j u hj => ?_, fun _ => ⟨fun q hq => ?_, fun k' hk' hne a hf => ?_⟩⟩
    · simp only [if_neg hik]
      refine E.frame p1 fun a ha => keep a (p2 a ha) (p6 k hkl (Ne.symm hik) a ha) fun j hj e => ?_
      subst e
      exact p5 _ (hin j hj) (by rw [← Nat.add_assoc]; exact ha)
    · obtain ⟨q1, q2, q3⟩ := p3 j u hj
      have hj' : j < E.size := by rw [← hl2]; exact (List.getElem?_eq_some_iff.1 hj).1
      have hn5 : ¬ Fk k ⟨g, off + i * E.size + j, none⟩ := by
        have hlt : i * E.size + j < l.length * E.size := by
          have : (i + 1) * E.size ≤ l.length * E.size := Nat.mul_le_mul_right _ hil
          rw [Nat.succ_mul] at this
          omega
        rw [Nat.add_assoc]; exact h5 _ hlt
      have hdf : ∀ j', j' < E.size → (⟨g, off + i * E.size + j, none⟩ : Addr) ≠ ⟨g, off + k * E.size + j', none⟩ := fun j' hj2 e => by
        have e2 : off + i * E.size + j = off + k * E.size + j' := by injection e
        rcases Nat.lt_or_gt_of_ne hik with h | h
        · have : (i + 1) * E.size ≤ k * E.size := Nat.mul_le_mul_right _ h
          rw [Nat.succ_mul] at this
          omega
        · have : (k + 1) * E.size ≤ i * E.size := Nat.mul_le_mul_right _ h
          rw [Nat.succ_mul] at this
          omega
      obtain ⟨c1, c2⟩ := keep _ q2 hn5 hdf
      exact ⟨c1.trans q1, Or.inl q2, fun hs => c2.trans (q3 hs)⟩
    · rw [List.length_set] at hq
      simp only [if_neg hik]
      exact p5 q hq
    · rw [List.length_set] at hk'
      simp only [if_neg hik] at hf
      by_cases hk2 : k' = k
      · simp only [if_pos hk2]
        intro hf'
        rcases r2 a hf' with h | h
        · exact p6 k hkl (Ne.symm hik) a hf h
        · exact h (p2 a hf)
      · simp only [if_neg hk2]
        exact p6 k' hk' hne a hf
/-- A row that a call has laid, of elements that lead nowhere. -/
theorem RowRd.of_flat {base : Nat} {e : TypeId} {cells : List Value} (hown : w.ownsRow base e E.size v l.length cells) (hm : l.length ≤ 9223372036854775807)
    (he : ∀ k x, l[k]? = some x → ∃ ys, (∀ j u, ys[j]? = some u → cells[k * E.size + j]? = some u) ∧ E.rd true w ys x (fun _ => False)) :
    RowRd E true w v l (fun a => base ≤ a.block ∧ a.block < w.heap.size) := by
  have hh := hown
  rcases hown.2 with ⟨rfl, h0⟩ | ⟨g, cap, cur, rfl, hb, hg, hcap, _⟩
  · have : l = [] := List.eq_nil_of_length_eq_zero h0
    subst this
    exact RowRd.nil _ _ _
  · refine ⟨some ⟨g, 0, none⟩, cap, fun _ _ => False, rfl, ⟨hm, (fun h => by cases h), hcap⟩, fun k x hk => ?_⟩
    obtain ⟨ys, h1, h2⟩ := he k x hk
    have hlt := (Array.getElem?_eq_some_iff.1 hg).1
    refine ⟨g, 0, ys, rfl, h2, fun _ h => h.elim, fun j u hj => ?_, fun _ => ⟨fun _ _ h => h, fun _ _ _ _ h => h.elim⟩⟩
    have hkl : k < l.length := (List.getElem?_eq_some_iff.1 hk).1
    have hjs : j < E.size := by rw [← E.len h2]; exact (List.getElem?_eq_some_iff.1 hj).1
    have hin : k * E.size + j < l.length * E.size := by
      have : (k + 1) * E.size ≤ l.length * E.size := Nat.mul_le_mul_right _ hkl
      rw [Nat.succ_mul] at this
      omega
    rw [Nat.zero_add]
    exact ⟨(hh.cellAt _ hin).trans (h1 j u hj), ⟨hb, hlt⟩, fun _ => hh.frozenAt _⟩
end
theorem cs_same {w : World} {a : Addr} {u v : Value} (h : w.cell? a = some u) : (w.setCell a v).cell? a = some v := World.cell?_setCell_same w a v h
theorem cs_other {w : World} {a b : Addr} {v : Value} (h : a ≠ b) : (w.setCell a v).cell? b = w.cell? b := World.cell?_setCell_other w a b v h
theorem cs_frozen {w : World} {a b : Addr} {v : Value} : (w.setCell a v).frozen? b = w.frozen? b := World.frozen?_setCell w a b v
/-- Nothing but what lies within F has turned. -/
structure Unch (F : Addr → Prop) (w w' : World) : Prop where
  size : w.heap.size ≤ w'.heap.size
  same : ∀ a, a.block < w.heap.size → ¬ F a → w'.cell? a = w.cell? a ∧ w'.frozen? a = w.frozen? a
theorem Unch.refl (F : Addr → Prop) (w : World) : Unch F w w := ⟨Nat.le_refl _, fun _ _ _ => ⟨rfl, rfl⟩⟩
theorem Unch.trans {F : Addr → Prop} {a b c : World} (h : Unch F a b) (k : Unch F b c) : Unch F a c :=
  ⟨Nat.le_trans h.size k.size, fun p hp hf => ⟨(k.same p (Nat.lt_of_lt_of_le hp h.size) hf).1.trans (h.same p hp hf).1, (k.same p (Nat.lt_of_lt_of_le hp h.size) hf).2.trans (h.same p hp hf).2⟩⟩
theorem Unch.mono {F G : Addr → Prop} {a b : World} (h : Unch F a b) (hg : ∀ p, F p → G p) : Unch G a b := ⟨h.size, fun p hp hf => h.same p hp fun hh => hf (hg p hh)⟩
theorem Unch.set {F : Addr → Prop} {w : World} {p : Addr} (hp : F p) (u : Value) : Unch F w (w.setCell p u) :=
  ⟨by simp [World.setCell], fun a _ hf => ⟨cs_other fun e => hf (e ▸ hp), cs_frozen⟩⟩
theorem Unch.below {F : Addr → Prop} {w w' : World} (h : Below w.heap.size w w') : Unch F w w' := ⟨h.size, fun _ hp _ => ⟨h.cell hp, h.frozen hp⟩⟩
/-- What lies elsewhere is kept. -/
theorem Rep.apart {α : Type} (E : Rep α) {s : Bool} {w w' : World} {vs : List Value} {x : α} {F G : Addr → Prop} (h : E.rd s w vs x G) (hu : Unch F w w') (hd : ∀ a, G a → ¬ F a) : E.rd s w' vs x G :=
  E.mono (E.frame (E.tight h) fun a ha => hu.same a ha.2 (hd a ha.1)) fun _ ha => ha.1
theorem RowRd.apart {α : Type} {E : Rep α} {s : Bool} {w w' : World} {v : Value} {l : List α} {F G : Addr → Prop} (h : RowRd E s w v l G) (hu : Unch F w w') (hd : ∀ a, G a → ¬ F a) : RowRd E s w' v l G := by
  obtain ⟨v', e, hr⟩ := (Rep.row E).apart (vs := [v]) ⟨v, rfl, h⟩ hu hd
  cases e; exact hr
/-- An element that is being written: its cells as they are, all else of the row as it was. -/
structure ElSt (F Fk : Addr → Prop) (g o n : Nat) (w0 w : World) (xs : List Value) : Prop where
  len : xs.length = n
  cells : ∀ j u, xs[j]? = some u → w.cell? ⟨g, o + j, none⟩ = some u
  free : ∀ j, j < n → w.frozen? ⟨g, o + j, none⟩ = false
  rest : ∀ a, F a → ¬ Fk a → (∀ j, j < n → a ≠ ⟨g, o + j, none⟩) → w.cell? a = w0.cell? a ∧ w.frozen? a = w0.frozen? a
theorem ElSt.cell {F Fk : Addr → Prop} {g o n : Nat} {w0 w : World} {xs : List Value} (h : ElSt F Fk g o n w0 w xs) (j : Nat) {u : Value} (hj : xs[j]? = some u) : w.cell? ⟨g, o + j, none⟩ = some u := h.cells j u hj
/-- A store into one of its cells. -/
theorem ElSt.set {F Fk : Addr → Prop} {g o n : Nat} {w0 w : World} {xs : List Value} (h : ElSt F Fk g o n w0 w xs) (j : Nat) (hj : j < n) (u : Value) : ElSt F Fk g o n w0 (w.setCell ⟨g, o + j, none⟩ u) (xs.set j u) where
  len := by rw [List.length_set]; exact h.len
  cells := fun i v hi => by
    by_cases hij : i = j
    · subst hij
      rw [List.getElem?_set_self (by rw [h.len]; exact hj)] at hi
      cases hi
      exact cs_same (h.cells i _ (List.getElem?_eq_getElem (by rw [h.len]; exact hj)))
    · rw [List.getElem?_set_ne (Ne.symm hij)] at hi
      rw [cs_other (by intro e; injection e with _ e2 _; omega)]
      exact h.cells i v hi
  free := fun i hi => cs_frozen.trans (h.free i hi)
  rest := fun a ha hk hne => by
    obtain ⟨h1, h2⟩ := h.rest a ha hk hne
    exact ⟨(cs_other (fun e => hne j hj e.symm)).trans h1, cs_frozen.trans h2⟩
/-- A call that writes within Fk alone. -/
theorem ElSt.call {F Fk : Addr → Prop} {g o n : Nat} {w0 w w' : World} {xs : List Value} (h : ElSt F Fk g o n w0 w xs) (hu : Unch Fk w w') (hc : ∀ j, j < n → ¬ Fk ⟨g, o + j, none⟩) (hb : ∀ a, F a → a.block < w.heap.size) : ElSt F Fk g o n w0 w' xs where
  len := h.len
  cells := fun j u hj => by
    have hjn : j < n := by rw [← h.len]; exact (List.getElem?_eq_some_iff.1 hj).1
    have := h.cells j u hj
    exact (hu.same _ (block_lt_of_cell this) (hc j hjn)).1.trans this
  free := fun j hj => by
    have hx : ∃ u, xs[j]? = some u := ⟨_, List.getElem?_eq_getElem (by rw [h.len]; exact hj)⟩
    obtain ⟨u, hu'⟩ := hx
    exact (hu.same _ (block_lt_of_cell (h.cells j u hu')) (hc j hj)).2.trans (h.free j hj)
  rest := fun a ha hk hne => by
    obtain ⟨h1, h2⟩ := h.rest a ha hk hne
    obtain ⟨h3, h4⟩ := hu.same a (hb a ha) hk
    exact ⟨h3.trans h1, h4.trans h2⟩
/-- To write an element of a row: take it out; its cells are written; put it back. -/
theorem RowRd.open {α : Type} {E : Rep α} {w : World} {A : Option Addr} {n cap : Nat} {l : List α} {F : Addr → Prop} (h : RowRd E true w (.slice A n cap) l F) {k : Nat} {x : α} (hk : l[k]? = some x) :
    ∃ g off xs Fk, A = some ⟨g, off, none⟩ ∧ E.rd true w xs x Fk ∧ ElSt F Fk g (off + k * E.size) E.size w w xs ∧ (∀ a, Fk a → F a) ∧ (∀ j, j < E.size → F ⟨g, off + k * E.size + j, none⟩ ∧ ¬ Fk ⟨g, off + k * E.size + j, none⟩) ∧
      ∀ (w' : World) (xs' : List Value) (x' : α) (F' : Addr → Prop), ElSt F Fk g (off + k * E.size) E.size w w' xs' → E.rd true w' xs' x' F' → (∀ a, F' a → Fk a ∨ ¬ F a) → RowRd E true w' (.slice A n cap) (l.set k x') (fun a => F a ∨ F' a) := by
  obtain ⟨g, off, xs, Fk, ha, hl, h1, h2, h3, h4⟩ := h.take hk
  have hx : ∀ j, j < E.size → ∃ u, xs[j]? = some u := fun j hj => ⟨_, List.getElem?_eq_getElem (by omega)⟩
  refine ⟨g, off, xs, Fk, ha, h1, ⟨hl, fun j u hj => (h3 j u hj).1, fun j hj => ?_, fun _ _ _ _ => ⟨rfl, rfl⟩⟩, h2, fun j hj => ?_, fun w' xs' x' F' he hr hf => h4 w' xs' x' F' hr hf he.cells he.free he.rest⟩
  · obtain ⟨u, hu⟩ := hx j hj; exact (h3 j u hu).2.1
  · obtain ⟨u, hu⟩ := hx j hj; exact (h3 j u hu).2.2
/-- Marks, element by element. -/
def cntTo {α : Type} (E : Rep α) (l : List α) (i : Nat) : Nat := cntRow E (l.take i)
def labTo {α : Type} (E : Rep α) (k : Nat) (l : List α) (i : Nat) : List α := labRow E k (l.take i) ++ l.drop i
section
variable {α : Type} (E : Rep α)
theorem labRow_len : ∀ (l : List α) (k : Nat), (labRow E k l).length = l.length
  | [], _ => rfl
  | x :: l, k => by simp [labRow, labRow_len l]
theorem labRow_append : ∀ (l m : List α) (k : Nat), labRow E k (l ++ m) = labRow E k l ++ labRow E (k + cntRow E l) m
  | [], m, k => by simp [labRow, cntRow]
  | x :: l, m, k => by simp [labRow, labRow_append l m, cntRow, Nat.add_assoc]
theorem cntTo_step (l : List α) (i : Nat) {x : α} (h : l[i]? = some x) : cntTo E l (i + 1) = cntTo E l i + E.cnt x := by
  unfold cntTo cntRow
  rw [List.take_add_one, h, List.map_append, List.sum_append]
  simp
theorem cntTo_all (l : List α) : cntTo E l l.length = cntRow E l := by unfold cntTo; rw [List.take_length]
theorem cntTo_le (l : List α) : ∀ i, cntTo E l i ≤ cntRow E l := fun i => by
  have h := List.take_append_drop i l
  have : cntRow E l = cntRow E (l.take i) + cntRow E (l.drop i) := by
    conv => lhs; rw [← h]
    unfold cntRow
    rw [List.map_append, List.sum_append]
  unfold cntTo; omega
theorem labTo_zero (k : Nat) (l : List α) : labTo E k l 0 = l := by simp [labTo, labRow]
theorem labTo_all (k : Nat) (l : List α) : labTo E k l l.length = labRow E k l := by simp [labTo]
theorem labTo_len (k : Nat) (l : List α) (i : Nat) : (labTo E k l i).length = l.length := by
  unfold labTo
  rw [List.length_append, labRow_len, List.length_take, List.length_drop]
  omega
theorem labTo_at (k : Nat) (l : List α) (i : Nat) {x : α} (h : l[i]? = some x) : (labTo E k l i)[i]? = some x := by
  have hi : i < l.length := (List.getElem?_eq_some_iff.1 h).1
  unfold labTo
  rw [List.getElem?_append_right (by rw [labRow_len, List.length_take]; omega), labRow_len, List.length_take, List.getElem?_drop, show i + (i - min i l.length) = i by omega]
  exact h
theorem labTo_step (k : Nat) (l : List α) (i : Nat) {x : α} (h : l[i]? = some x) : (labTo E k l i).set i (E.lab (k + cntTo E l i) x) = labTo E k l (i + 1) := by
  have hi : i < l.length := (List.getElem?_eq_some_iff.1 h).1
  have hx : l[i] = x := by rw [List.getElem?_eq_getElem hi] at h; exact Option.some.inj h
  unfold labTo
  rw [List.take_add_one, h, labRow_append, List.drop_eq_getElem_cons hi, List.set_append_right _ _ (by rw [labRow_len, List.length_take]; omega), labRow_len, List.length_take, show i - min i l.length = 0 by omega, List.set_cons_zero]
  simp [labRow, cntTo]
theorem labRow_at (k : Nat) (l : List α) (i : Nat) {x : α} (h : l[i]? = some x) : (labRow E k l)[i]? = some (E.lab (k + cntTo E l i) x) := by
  have hi : i < l.length := (List.getElem?_eq_some_iff.1 h).1
  have e := List.take_append_drop i l
  have hx : l[i] = x := by rw [List.getElem?_eq_getElem hi] at h; exact Option.some.inj h
  conv => lhs; rw [← e]
  rw [labRow_append, List.getElem?_append_right (by rw [labRow_len, List.length_take]; omega), labRow_len, List.length_take, show i - min i l.length = 0 by omega, List.drop_eq_getElem_cons hi, hx]
  simp [labRow, cntTo]
end
theorem box1 (w : World) (a b : Obj) : ((w.alloc a).alloc b).heap[w.heap.size]? = some a := by
  rw [Below.heap_alloc _ _ _ (by simp)]; exact heap_alloc_new _ _
theorem box2 (w : World) (a b : Obj) : ((w.alloc a).alloc b).heap[w.heap.size + 1]? = some b := by
  have := heap_alloc_new (w.alloc a) b
  rwa [World.size_alloc] at this
theorem cell_in {w : World} {g : Nat} {cs : Array Value} {t : TypeId} (h : w.heap[g]? = some (.cells cs t (0, 0))) (j : Nat) {u : Value} (hu : cs[j]? = some u) : w.cell? ⟨g, j, none⟩ = some u := by
  simp [World.cell?, h, hu]
/-- It answers with a row of its own that holds these data. -/
def OwnPost {α : Type} (E : Rep α) (l : List α) (w : World) (e : Ending) (w' : World) : Prop := ∃ u, e = .returned u ∧ RowRd E true w' u l (fun a => w.heap.size ≤ a.block) ∧ Below w.heap.size w w'
theorem szRow_len {α : Type} (E : Rep α) (l : List α) : l.length ≤ szRow E l := by unfold szRow; omega
theorem szRow_at {α : Type} (E : Rep α) : ∀ (l : List α) (k : Nat) {x : α}, l[k]? = some x → E.sz x ≤ szRow E l
  | [], k, x, h => by simp at h
  | y :: l, 0, x, h => by simp at h; subst h; simp [szRow]; omega
  | y :: l, k + 1, x, h => by
    have := szRow_at E l k (by simpa using h)
    simp [szRow] at this ⊢
    omega
/-- The first k of a row copied, the others still zero. -/
def cpTo {α : Type} (z : α) (l : List α) (k : Nat) : List α := l.take k ++ List.replicate (l.length - k) z
theorem cpTo_zero {α : Type} (z : α) (l : List α) : cpTo z l 0 = List.replicate l.length z := by simp [cpTo]
theorem cpTo_all {α : Type} (z : α) (l : List α) : cpTo z l l.length = l := by simp [cpTo]
theorem cpTo_at {α : Type} (z : α) (l : List α) (k : Nat) (h : k < l.length) : (cpTo z l k)[k]? = some z := by
  unfold cpTo
  rw [List.getElem?_append_right (by rw [List.length_take]; omega), List.length_take, show k - min k l.length = 0 by omega, List.getElem?_replicate, if_pos (by omega)]
theorem cpTo_step {α : Type} (z : α) (l : List α) (k : Nat) {x : α} (h : l[k]? = some x) : (cpTo z l k).set k x = cpTo z l (k + 1) := by
  have hk : k < l.length := (List.getElem?_eq_some_iff.1 h).1
  unfold cpTo
  rw [List.set_append_right _ _ (by rw [List.length_take]; omega), List.length_take, show k - min k l.length = 0 by omega, show l.length - k = (l.length - (k + 1)) + 1 by omega, List.replicate_succ, List.set_cons_zero, List.take_add_one, h, List.append_assoc]
  rfl
theorem made_at (zs : Array Value) (N i : Nat) (h : i < N) (hz : 0 < zs.size) : (madeCells zs N).toList[i]? = zs[i % zs.size]? := by
  have hm : i % zs.size < zs.size := Nat.mod_lt _ hz
  simp [madeCells, h]
  rw [getElem?_pos zs (i % zs.size) hm]
  simp [hm]
/-- A block that holds just these cells. -/
def InC (w : World) (g : Nat) (cs : Array Value) (t : TypeId) : Prop := w.heap[g]? = some (.cells cs t (0, 0))
theorem InC.cell {w : World} {g : Nat} {cs : Array Value} {t : TypeId} (h : InC w g cs t) (j : Nat) {u : Value} (hu : cs[j]? = some u) : w.cell? ⟨g, j, none⟩ = some u := cell_in h j hu
theorem InC.free {w : World} {g : Nat} {cs : Array Value} {t : TypeId} (h : InC w g cs t) (j : Nat) : w.frozen? ⟨g, j, none⟩ = false := frozen_of_row w g j _ _ h
theorem InC.kept {w w' : World} {g : Nat} {cs : Array Value} {t : TypeId} (h : InC w g cs t) (hb : Below w.heap.size w w') : InC w' g cs t := (hb.block g (Array.getElem?_eq_some_iff.1 h).1).trans h
theorem InC.other {w : World} {g : Nat} {cs : Array Value} {t : TypeId} (h : InC w g cs t) {p : Addr} (hp : g ≠ p.block) (u : Value) : InC (w.setCell p u) g cs t := (Below.heap_setCell w p u g hp).trans h
theorem InC.lt {w : World} {g : Nat} {cs : Array Value} {t : TypeId} (h : InC w g cs t) : g < w.heap.size := (Array.getElem?_eq_some_iff.1 h).1
theorem szRow_flat {α : Type} (E : Rep α) (h : ∀ x, E.sz x = 0) (l : List α) : szRow E l = l.length := by
  have : (l.map E.sz).sum = 0 := by
    induction l with
    | nil => rfl
    | cons x l ih => rw [List.map_cons, List.sum_cons, h, ih]
  unfold szRow; omega
theorem RowRd.zero {α : Type} {E : Rep α} (s : Bool) (w : World) (A : Addr) (cap : Nat) (F : Addr → Prop) : RowRd E s w (.slice (some A) 0 cap) ([] : List α) F := ⟨some A, cap, fun _ _ => False, rfl, by simp, fun k x hk => by simp at hk⟩
/-- Rows of numbers that a call has laid. -/
def cellsN (l : List Int) : List Value := l.map (Value.int .i64)
theorem cellsN_len (l : List Int) : (cellsN l).length = l.length := by simp [cellsN]
theorem cellsN_at (l : List Int) (k : Nat) {z : Int} (h : l[k]? = some z) : (cellsN l)[k]? = some (.int .i64 z) := by simp [cellsN, h]
theorem cellsN_set (l : List Int) (k : Nat) (z : Int) : (cellsN l).set k (.int .i64 z) = cellsN (l.set k z) := by simp [cellsN, List.map_set]
theorem cellsN_rep (n : Nat) (z : Int) : cellsN (List.replicate n z) = List.replicate n (.int .i64 z) := by simp [cellsN]
theorem cellsN_append (a b : List Int) : cellsN (a ++ b) = cellsN a ++ cellsN b := by simp [cellsN]
theorem RowRd.of_ints {w : World} {base : Nat} {v : Value} {l : List Int} (h : w.ownsRow base 3 1 v l.length (cellsN l)) (hm : l.length ≤ 9223372036854775807) (hz : ∀ z ∈ l, I64 z) : RowRd Rep.int true w v l (fun a => base ≤ a.block) :=
  (RowRd.of_flat (E := Rep.int) h hm fun k x hk => ⟨[.int .i64 x], fun j u hj => by
    match j, hj with
    | 0, hj =>
      simp at hj
      subst hj
      rw [show Rep.int.size = 1 from rfl, Nat.mul_one, Nat.add_zero]
      exact cellsN_at l k hk, rfl, hz x (List.mem_of_getElem? hk)⟩).mono fun a h => h.1
theorem RowRd.of_inC {w : World} {B : Nat} {l : List Int} (h : InC w B (cellsN l).toArray 3) (hm : l.length ≤ maxLen) (hz : ∀ z ∈ l, I64 z) {base : Nat} (hb : base ≤ B) : RowRd Rep.int true w (.slice (some ⟨B, 0, none⟩) l.length l.length) l (fun a => base ≤ a.block) :=
  RowRd.of_ints ⟨by rw [cellsN_len, Nat.mul_one], Or.inr ⟨B, l.length, _, rfl, hb, h, Nat.le_refl _, hm, by simp [cellsN], by simp [cellsN, List.take_of_length_le]⟩⟩ (by unfold maxLen at hm; omega) hz
theorem below_step {a W c : World} (h1 : Below a.heap.size a W) (h2 : Below W.heap.size W c) : Below a.heap.size a c := h1.trans (h2.mono h1.size)
theorem rowrd_agg {α : Type} {E : Rep α} {s : Bool} {w w' : World} {v : Value} {l : List α} {F : Addr → Prop} (h : RowRd E s w v l F) (hb : Below w.heap.size w w') : RowRd E s w' v l F := h.kept hb
theorem cntRow_int (l : List Int) : cntRow Rep.int l = l.length := by
  induction l with
  | nil => rfl
  | cons x l ih => unfold cntRow at *; rw [List.map_cons, List.sum_cons, ih, List.length_cons, show Rep.int.cnt x = 1 from rfl]; omega
theorem InC.keptB {w w' : World} {g B : Nat} {cs : Array Value} {t : TypeId} (h : InC w g cs t) (hb : Below B w w') (hg : g < B) : InC w' g cs t := (hb.block g hg).trans h
end Go.Proofs.YtkaihnlknncfdaaGreatDoor

/- Arguments: what the caller's cells stand for. -/
namespace Go.Proofs.YtkaihnlknncfdaaGreatDoor
set_option maxRecDepth 100000
open Go.ChangeShapes Go.WideShapes Go.RowKit Go.Deep
set_option linter.unusedVariables false

def Opens {α H : Type} (enc : TypeId × Value → H) (W : World) (base : Nat) (spare : Nat → Bool) (held : Bool) (E : Rep α) (t : TypeId) : Prop :=
  ∀ (fuel : Nat) (cs : List Value) (y : DataW H × List MemPlace), DataW.trod enc Tryz.prog W base spare held fuel t cs = some y → ∃ (ys : List Value) (x : α) (F : Addr → Prop), (∀ (j : Nat) (u : Value), ys[j]? = some u → cs[j]? = some u) ∧ E.rd false W ys x F
theorem pick_of {α : Type} {n : Nat} {p : Nat → α → Prop} (h : ∀ i, i < n → ∃ x, p i x) : ∃ l : List α, l.length = n ∧ ∀ i x, l[i]? = some x → p i x := by
  induction n with
  | zero => exact ⟨[], rfl, fun i x h => by simp at h⟩
  | succ n ih =>
    obtain ⟨l, hl, hp⟩ := ih fun i hi => h i (by omega)
    obtain ⟨x, hx⟩ := h n (by omega)
    refine ⟨l ++ [x], by simp [hl], fun i y hy => ?_⟩
    by_cases hi : i < n
    · rw [List.getElem?_append_left (by omega)] at hy; exact hp i y hy
    · have hin : i < n + 1 := by have := (List.getElem?_eq_some_iff.1 hy).1; simpa [hl] using this
      obtain rfl : i = n := by omega
      rw [List.getElem?_append_right (by omega), hl, Nat.sub_self] at hy
      simp at hy
      subst hy
      exact hx
section
variable {H : Type} {enc : TypeId × Value → H} {W : World} {base : Nat} {spare : Nat → Bool} {held : Bool}
theorem opens_int : Opens enc W base spare held Rep.int 3 := fun fuel cs y h => by
  obtain ⟨n, rfl, _, hw⟩ := DataW.trod_int Tryz.underlying3 h
  refine ⟨[.int .i64 n], n, fun _ => False, fun j u h => h, rfl, ?_⟩
  simpa [Lit.wf, I64, IntKind.min, IntKind.max, IntKind.signed, IntKind.bits] using hw
theorem opens_row {α : Type} {E : Rep α} {e t : TypeId} (he : Opens enc W base spare held E e) (ht : Tryz.prog.underlying t = some (.slice e)) (hc : Tryz.prog.cellsOf e = E.size) (hpos : 0 < E.size) : Opens enc W base spare held (Rep.row E) t := fun fuel cs y h => by
  rcases open_slice ht h with ⟨rfl, _⟩ | ⟨a, len, cap, m, n, D, Pl, rfl, _, hl, hm, hmm, _, hi⟩
  · exact ⟨[.slice none 0 0], [], fun _ => False, fun j u h => h, _, rfl, RowRd.nil _ _ _⟩
  · have hlm : len ≤ m := by rw [hmm]; split <;> omega
    obtain ⟨l, hln, hel⟩ := pick_of (n := len) (p := fun i (x : α × (List Value × (Addr → Prop))) => E.rd false W x.2.1 x.1 x.2.2 ∧ ∀ j u, x.2.1[j]? = some u → W.cell? (a.add (i * E.size + j)) = some u) fun i hin => by
      obtain ⟨cs', hcc, htr⟩ := hi i (by omega)
      obtain ⟨ys, x, F, h1, h2⟩ := he _ _ _ htr
      refine ⟨⟨x, ys, F⟩, h2, fun j u hj => ?_⟩
      obtain ⟨_, hlen, hat⟩ := World.cells?_some hcc
      have hj' : j < Tryz.prog.cellsOf e := by rw [← hlen]; exact (List.getElem?_eq_some_iff.1 (h1 j u hj)).1
      have := hat j hj'
      rw [h1 j u hj, add_add, hc] at this
      exact this
    have hmx : len ≤ 9223372036854775807 := by unfold maxLen at hm; omega
    refine ⟨[.slice (some a) len cap], l.map (·.1), fun _ => True, fun j u h => h, _, rfl, some a, cap, fun k => ((l.map (·.2.2))[k]?).getD (fun _ => False), by simp [hln], ⟨by simpa [hln] using hmx, (fun h => by cases h), by simpa [hln] using hl⟩, fun k x hk => ?_⟩
    rw [List.getElem?_map] at hk
    cases hz : l[k]? with
    | none => rw [hz] at hk; cases hk
    | some z =>
      rw [hz] at hk
      cases hk
      obtain ⟨h1, h2⟩ := hel k z hz
      obtain ⟨b, off, spot⟩ := a
      have hsp : spot = none := by
        have hk0 : 0 < l.length := Nat.lt_of_le_of_lt (Nat.zero_le _) (List.getElem?_eq_some_iff.1 hz).1
        obtain ⟨g1, g2⟩ := hel 0 _ (List.getElem?_eq_getElem hk0)
        have hj0 : 0 < (l[0]).2.1.length := by rw [E.len g1]; exact hpos
        have := g2 0 _ (List.getElem?_eq_getElem hj0)
        simpa [Addr.add] using World.cell?_spot this
      subst hsp
      have he2 : ∀ j, (⟨b, off, none⟩ : Addr).add j = ⟨b, off + j, none⟩ := fun j => by unfold Addr.add; split <;> simp_all
      refine ⟨b, off, z.2.1, rfl, ?_, fun _ _ => trivial, fun j u hj => ⟨?_, trivial, fun hs => by cases hs⟩, fun hs => by cases hs⟩
      · simpa [List.getElem?_map, hz] using h1
      · have := h2 j u hj
        rw [he2, ← Nat.add_assoc] at this
        exact this
theorem arg_int {v : Value} {d : DataW H} {p : List MemPlace} {b0 : Nat} (hval : Value.okWide Tryz.prog W .any b0 3 v) (h : DataW.Trod enc Tryz.prog W 0 (fun _ => true) held 3 v d p) : ∃ n : Int, v = .int .i64 n ∧ I64 n := by
  obtain ⟨fuel, hf⟩ := h
  obtain ⟨n, hv, _, hw⟩ := DataW.trod_int Tryz.underlying3 hf
  refine ⟨n, ?_, by simpa [Lit.wf, I64, IntKind.min, IntKind.max, IntKind.signed, IntKind.bits] using hw⟩
  obtain ⟨m, rfl⟩ := okWide_int Tryz.underlying3 hval
  simp [Value.cells] at hv
  rw [hv]
theorem arg_row {α : Type} {E : Rep α} {e t : TypeId} (he : Opens enc W 0 (fun _ => true) held E e) (ht : Tryz.prog.underlying t = some (.slice e)) (hc : Tryz.prog.cellsOf e = E.size) (hpos : 0 < E.size)
    {v : Value} {d : DataW H} {p : List MemPlace} {b0 : Nat} (hval : Value.okWide Tryz.prog W .any b0 t v) (h : DataW.Trod enc Tryz.prog W 0 (fun _ => true) held t v d p) : ∃ (l : List α) (F : Addr → Prop), RowRd E false W v l F := by
  obtain ⟨a0, len0, cap0, rfl⟩ := okWide_slice ht hval
  obtain ⟨fuel, hf⟩ := h
  obtain ⟨ys, l, F, hy, v', rfl, hr⟩ := opens_row he ht hc hpos _ _ _ hf
  have := hy 0 v' rfl
  simp [Value.cells] at this
  subst this
  exact ⟨l, F, hr⟩
end
/-- An argument that is a struct by value: its cells. -/
theorem agg_of {cs : Array Value} {ys : List Value} (h : ∀ (j : Nat) (u : Value), ys[j]? = some u → cs.toList[j]? = some u) (hl : ys.length = cs.size) : cs = ys.toArray := by
  apply Array.toList_inj.1
  apply List.ext_getElem?
  intro j
  by_cases hj : j < ys.length
  · rw [h j _ (List.getElem?_eq_getElem hj)]; simp [hj]
  · rw [List.getElem?_eq_none (by simp; omega), List.getElem?_eq_none (by simp; omega)]
theorem at_part {cs : List Value} {k n : Nat} {j : Nat} {u : Value} (h : ((cs.drop k).take n)[j]? = some u) : cs[k + j]? = some u := by
  have hj : j < n := by
    have := (List.getElem?_eq_some_iff.1 h).1
    rw [List.length_take] at this
    omega
  rwa [List.getElem?_take_of_lt hj, List.getElem?_drop] at h
end Go.Proofs.YtkaihnlknncfdaaGreatDoor

/- Texts and rows of texts among a call's arguments. -/
namespace Go.Proofs.YtkaihnlknncfdaaGreatDoor
set_option maxRecDepth 100000
open Go.ChangeShapes Go.WideShapes Go.RowKit Go.Deep
set_option linter.unusedVariables false

section
variable {H : Type} {enc : TypeId × Value → H} {W : World} {base : Nat} {spare : Nat → Bool} {held : Bool}
theorem opens_str (m : Nat → ByteArray) : Opens enc W base spare held (Rep.str m) 9 := fun fuel cs y h => by
  obtain ⟨s, rfl, _, hw⟩ := DataW.trod_string Tryz.underlying9 h
  exact ⟨[.string s], s, fun _ => False, fun j u h => h, rfl, by unfold maxLen at hw; omega⟩
/-- An argument that is a row of texts. -/
theorem arg_strs (m : Nat → ByteArray) {v : Value} {d : DataW H} {p : List MemPlace} {b0 : Nat} (hval : Value.okWide Tryz.prog W .any b0 22 v) (h : DataW.Trod enc Tryz.prog W 0 (fun _ => true) held 22 v d p) : ∃ (l : List ByteArray) (F : Addr → Prop), RowRd (Rep.str m) false W v l F :=
  arg_row (E := Rep.str m) (opens_str m) Tryz.underlying22 (by kernel_rfl) (Nat.one_pos) hval h
end
end Go.Proofs.YtkaihnlknncfdaaGreatDoor

/- The struct Link: its data in cells. -/
namespace Go.Proofs.YtkaihnlknncfdaaGreatDoor
set_option maxRecDepth 100000
open Go.RowKit
set_option linter.unusedVariables false
set_option linter.unusedSimpArgs false

structure DLink where
  In : UInt8
  Out : UInt8
deriving DecidableEq
def rLink : Rep DLink := Rep.map (Rep.pair Rep.byte Rep.byte) (fun x => (x.In, x.Out)) (fun p => ⟨p.1, p.2⟩)
theorem rLink_size : rLink.size = 2 := rfl
def zLink : DLink := ⟨0, 0⟩
theorem rLink_rd {s : Bool} {w : World} {vs : List Value} {x : DLink} {F : Addr → Prop} (h : rLink.rd s w vs x F) : vs = [.int .u8 (x.In.toNat : Int), .int .u8 (x.Out.toNat : Int)] := by
  obtain ⟨a0, b0, F0, G0, rfl, h0, h1, k0, l0, d0⟩ := h
  have e0 : a0 = [.int .u8 (x.In.toNat : Int)] := h0
  subst e0
  have e1 : b0 = [.int .u8 (x.Out.toNat : Int)] := h1
  subst e1
  exact rfl
theorem rLink_mk {s : Bool} {w : World} {x : DLink} {F : Addr → Prop} : rLink.rd s w [.int .u8 (x.In.toNat : Int), .int .u8 (x.Out.toNat : Int)] x F := by
  exact ⟨[.int .u8 (x.In.toNat : Int)], [.int .u8 (x.Out.toNat : Int)], fun _ => False, fun _ => False, rfl, rfl, rfl, fun _ h => h.elim, fun _ h => h.elim, fun _ _ h _ => h.elim⟩
theorem rLink_lab (k : Nat) (x : DLink) : rLink.lab k x = ⟨UInt8.ofNat (k), UInt8.ofNat (k + 1)⟩ := rfl
theorem rLink_cnt (x : DLink) : rLink.cnt x = 1 + (1) := rfl
theorem rLink_sz (x : DLink) : rLink.sz x = 0 + (0) := rfl
end Go.Proofs.YtkaihnlknncfdaaGreatDoor

/- The struct Candidate: its data in cells. -/
namespace Go.Proofs.YtkaihnlknncfdaaGreatDoor
set_option maxRecDepth 100000
open Go.RowKit
set_option linter.unusedVariables false
set_option linter.unusedSimpArgs false

structure DCandidate where
  Links : (List DLink)
deriving DecidableEq
def rCandidate : Rep DCandidate := Rep.map (Rep.row rLink) (fun x => x.Links) (fun p => ⟨p⟩)
theorem rCandidate_size : rCandidate.size = 1 := rfl
def zCandidate : DCandidate := ⟨[]⟩
theorem rCandidate_rd {s : Bool} {w : World} {vs : List Value} {x : DCandidate} {F : Addr → Prop} (h : rCandidate.rd s w vs x F) : ∃ v0, vs = [v0] ∧ RowRd rLink s w v0 x.Links F := by
  have h0 := h
  obtain ⟨v0, rfl, q0⟩ := h0
  exact ⟨v0, rfl, q0⟩
theorem rCandidate_mk {s : Bool} {w : World} {x : DCandidate} {F : Addr → Prop} {v0 : Value} (p0 : RowRd rLink s w v0 x.Links F) : rCandidate.rd s w [v0] x F := by
  exact ⟨v0, rfl, p0⟩
theorem rCandidate_lab (k : Nat) (x : DCandidate) : rCandidate.lab k x = ⟨labRow rLink (k) x.Links⟩ := rfl
theorem rCandidate_cnt (x : DCandidate) : rCandidate.cnt x = cntRow rLink x.Links := rfl
theorem rCandidate_sz (x : DCandidate) : rCandidate.sz x = szRow rLink x.Links := rfl
end Go.Proofs.YtkaihnlknncfdaaGreatDoor

/- Plain mathematics on numbers and lists of bytes: no condition. -/
namespace Go.Proofs.YtkaihnlknncfdaaGreatDoor.M
set_option maxRecDepth 100000

/-- The byte of a number. -/
def byt (n : Int) : UInt8 := UInt8.ofNat n.toNat
/-- The lowest k bytes of n, the highest first. -/
def lowB (n : Int) : Nat → List UInt8
  | 0 => []
  | k + 1 => lowB (n / 256) k ++ [byt (n % 256)]
/-- What is left of n above its lowest k bytes. -/
def hiB (n : Int) : Nat → Int
  | 0 => n
  | k + 1 => hiB (n / 256) k
theorem lowB_len (n : Int) (k : Nat) : (lowB n k).length = k := by
  induction k generalizing n with
  | zero => rfl
  | succ k ih => simp [lowB, ih]
theorem hiB_eq (n : Int) (k : Nat) : hiB n k = n / 256 ^ k := by
  induction k generalizing n with
  | zero => simp [hiB]
  | succ k ih => rw [hiB, ih, Int.ediv_ediv_of_nonneg (by omega), Int.pow_succ']
/-- The text of EncodeFixed for a width in its range and n at least 0. -/
def encF (n : Int) (k : Nat) : ByteArray := if hiB n k = 0 then ⟨(lowB n k).toArray⟩ else ⟨#[]⟩
theorem encF_in {n : Int} {k : Nat} {c : Int} {out : List UInt8} (h : hiB n k = c) (h0 : c = 0) (hl : lowB n k = out) : encF n k = ⟨out.toArray⟩ := by
  unfold encF; rw [h, if_pos h0, hl]
theorem encF_out {n : Int} {k : Nat} {c : Int} (h : hiB n k = c) (h0 : 0 < c) : encF n k = ⟨#[]⟩ := by
  unfold encF; rw [h, if_neg (by omega)]
end Go.Proofs.YtkaihnlknncfdaaGreatDoor.M
namespace Go.Proofs.YtkaihnlknncfdaaGreatDoor.M
set_option maxRecDepth 100000
theorem byt_toNat (x : Int) (h0 : 0 ≤ x) (h1 : x < 256) : ((byt x).toNat : Int) = x := by
  unfold byt
  rw [UInt8.toNat_ofNat']
  omega
theorem hiB_pow (n : Int) (k : Nat) : hiB n k = n / 2 ^ (8 * k) := by
  rw [hiB_eq, Int.pow_mul]; rfl
end Go.Proofs.YtkaihnlknncfdaaGreatDoor.M

/- Equal answers are equal endings. -/
namespace Go.Proofs.YtkaihnlknncfdaaGreatDoor
set_option maxRecDepth 100000
open Go.RowKit

theorem ret_str {a b : ByteArray} (h : a = b) : Ending.returned (.string a) = .returned (.string b) := by rw [h]
theorem ret_bool {a b : Bool} (h : a = b) : Ending.returned (.bool a) = .returned (.bool b) := by rw [h]
theorem ret_i64 {a b : Int} (h : a = b) : Ending.returned (.int .i64 a) = .returned (.int .i64 b) := by rw [h]
end Go.Proofs.YtkaihnlknncfdaaGreatDoor

/- Rows of bytes that a call makes: what their conversion to a string gives. -/
namespace Go.Proofs.YtkaihnlknncfdaaGreatDoor
set_option maxRecDepth 100000
open Go.RowKit M

/-- Bytes as cells. -/
def cellsB (l : List UInt8) : List Value := l.map fun b => .int .u8 (b.toNat : Int)
theorem cellsB_len (l : List UInt8) : (cellsB l).length = l.length := by simp [cellsB]
theorem Tryz.info5 : (Tryz.prog.info? 5).map (fun i => (i.zero, i.size, i.bytes)) = some (some (.int .u8 0), 1, 1) := by kernel_rfl

/-- 'string(v)' of a row of the call's own. -/
theorem conv_own {w : World} {base n : Nat} {v : Value} {l : List UInt8} (h : w.ownsRow base 5 1 v n (cellsB l)) :
    (convert 112 9 v).run Tryz.prog w = .ok (.string ⟨l.toArray⟩) w := by
  have hl : l.length = n := by have := h.1; simpa [cellsB] using this
  have hh := h
  rcases h.2 with ⟨rfl, rfl⟩ | ⟨g, cap, cur, rfl, _⟩
  · have : l = [] := List.eq_nil_of_length_eq_zero hl
    subst this
    exact run_convert_bytes_nil w 112 5 Tryz.underlying112 Tryz.underlying5 0 0 9 Tryz.underlying9
  · subst hl
    refine run_convert_bytes_back w 112 9 5 ⟨g, 0, none⟩ cap l Tryz.underlying112 Tryz.underlying5 Tryz.underlying9 fun j hj => ?_
    have hp : (⟨g, 0, none⟩ : Addr).add j = ⟨g, j, none⟩ := by unfold Addr.add; split <;> simp_all
    rw [hp, hh.cellAt j (by omega)]
    simp [cellsB, List.getElem?_map, List.getElem?_eq_getElem hj]
theorem set_rep (j : Nat) (z : Value) (x : Int) (h0 : 0 ≤ x) (h1 : x < 256) (out : List UInt8) :
    (List.replicate (j + 1) z ++ cellsB out).set j (.int .u8 x) = List.replicate j z ++ cellsB (byt x :: out) := by
  rw [List.replicate_succ', List.append_assoc, List.set_append_right _ _ (by simp)]
  simp [cellsB, byt_toNat x h0 h1]
end Go.Proofs.YtkaihnlknncfdaaGreatDoor

/- The sounds as numbers: which bytes are sounds, obstruents, and have a feature; plain mathematics. -/
namespace Go.Proofs.YtkaihnlknncfdaaGreatDoor
set_option maxRecDepth 100000
open Go.RowKit

def isSnd (x : Int) : Bool := x == 112 || x == 116 || x == 98 || x == 100 || x == 110 || x == 97 || x == 105
def isObs (x : Int) : Bool := x == 112 || x == 116 || x == 98 || x == 100
def swapV (x : Int) : Int := if x = 112 then 98 else if x = 98 then 112 else if x = 116 then 100 else if x = 100 then 116 else x
/-- The k-th sound. -/
def sndAt (k : Nat) : Int := [112, 116, 98, 100, 110, 97, 105].getD k 0
def hasF (x f : Int) : Bool :=
  if f = 0 then x == 97 || x == 105 else if f = 1 then x == 98 || x == 100 || x == 110 || x == 97 || x == 105 else if f = 2 then x == 110
  else if f = 3 then x == 112 || x == 98 else if f = 4 then x == 105 else false
theorem snd_index (x : Int) (h0 : 0 ≤ x) (h1 : x < 256) : decide (0 ≤ Lib.indexByte [112, 116, 98, 100, 110, 97, 105] x.toNat.toUInt8) = isSnd x := by
  obtain ⟨n, rfl⟩ := Int.eq_ofNat_of_zero_le h0
  have key : ∀ m : Fin 256, decide (0 ≤ Lib.indexByte [112, 116, 98, 100, 110, 97, 105] m.val.toUInt8) = isSnd (m.val : Int) := by decide +kernel
  exact key ⟨n, by omega⟩
theorem obs_index (x : Int) (h0 : 0 ≤ x) (h1 : x < 256) : decide (0 ≤ Lib.indexByte [112, 116, 98, 100] x.toNat.toUInt8) = isObs x := by
  obtain ⟨n, rfl⟩ := Int.eq_ofNat_of_zero_le h0
  have key : ∀ m : Fin 256, decide (0 ≤ Lib.indexByte [112, 116, 98, 100] m.val.toUInt8) = isObs (m.val : Int) := by decide +kernel
  exact key ⟨n, by omega⟩
/-- The bytes that have a feature, as the program's table has them. -/
def featL : Nat → List UInt8
  | 0 => [97, 105] | 1 => [98, 100, 110, 97, 105] | 2 => [110] | 3 => [112, 98] | 4 => [105] | _ => []
theorem feat_index (x : Int) (k : Nat) (h0 : 0 ≤ x) (h1 : x < 256) (hk : k < 5) : decide (0 ≤ Lib.indexByte (featL k) x.toNat.toUInt8) = hasF x k := by
  obtain ⟨n, rfl⟩ := Int.eq_ofNat_of_zero_le h0
  have key : ∀ k : Fin 5, ∀ m : Fin 256, decide (0 ≤ Lib.indexByte (featL k.val) m.val.toUInt8) = hasF (m.val : Int) (k.val : Int) := by decide +kernel
  exact key ⟨k, hk⟩ ⟨n, by omega⟩
theorem hasF_no (x f : Int) (h : f < 0 ∨ 4 < f) : hasF x f = false := by
  unfold hasF
  rw [if_neg (by omega), if_neg (by omega), if_neg (by omega), if_neg (by omega), if_neg (by omega)]
theorem isSnd_at (x : Int) (k : Nat) (hk : k < 7) (h : sndAt k = x) : isSnd x = true := by
  subst h
  have key : ∀ k : Fin 7, isSnd (sndAt k.val) = true := by decide
  exact key ⟨k, hk⟩
theorem isSnd_none (x : Int) (h : ∀ k, k < 7 → sndAt k ≠ x) : isSnd x = false := by
  have h0 := h 0 (by omega); have h1 := h 1 (by omega); have h2 := h 2 (by omega); have h3 := h 3 (by omega)
  have h4 := h 4 (by omega); have h5 := h 5 (by omega); have h6 := h 6 (by omega)
  simp [sndAt] at h0 h1 h2 h3 h4 h5 h6
  unfold isSnd
  simp
  omega
end Go.Proofs.YtkaihnlknncfdaaGreatDoor
