/- Arguments: what the caller's cells stand for. -/
import Derived.Test.YtnildbalaedlgaaDoorRp
import Derived.Test.YtnildbalaedlgaaDoorRows
import Derived.Deep.Slices
import Derived.Lib.SmallJoins
import Derived.ChangeSame
namespace Go.Proofs.YtnildbalaedlgaaDoor
set_option maxRecDepth 100000
open Go.ChangeShapes Go.WideShapes Go.RowKit Go.Deep
set_option linter.unusedVariables false

def Opens {α H : Type} (enc : TypeId × Value → H) (W : World) (base : Nat) (spare : Nat → Bool) (held : Bool) (E : Rep α) (t : TypeId) : Prop :=
  ∀ (fuel : Nat) (cs : List Value) (y : DataW H × List MemPlace), DataW.trod enc Tryd.prog W base spare held fuel t cs = some y → ∃ (ys : List Value) (x : α) (F : Addr → Prop), (∀ (j : Nat) (u : Value), ys[j]? = some u → cs[j]? = some u) ∧ E.rd false W ys x F
theorem pick_of {α : Type} {n : Nat} {p : Nat → α → Prop} (h : ∀ i, i < n → ∃ x, p i x) : ∃ l : List α, l.length = n ∧ ∀ i x, l[i]? = some x → p i x := by
  induction n with
  | zero => exact ⟨[], rfl, fun i x h => by simp at h⟩
  | succ n ih =>
    obtain ⟨l, hl, hp⟩ := ih fun i hi => h i (by omega)
    obtain ⟨x, hx⟩ := h n (by omega)
    refine ⟨l ++ [x], by simp [hl], fun i y hy => ?_⟩
    by_cases hi : i < n
    · rw [List.getElem?_append_left (by omega)] at hy; exact hp i y hy
    · have hin : i < n + 1 := by have := (List.getElem?_eq_some_iff.1 hy).1; simpa [hl] using this
      obtain rfl : i = n := by omega
      rw [List.getElem?_append_right (by omega), hl, Nat.sub_self] at hy
      simp at hy
      subst hy
      exact hx
section
variable {H : Type} {enc : TypeId × Value → H} {W : World} {base : Nat} {spare : Nat → Bool} {held : Bool}
theorem opens_int : Opens enc W base spare held Rep.int 3 := fun fuel cs y h => by
  obtain ⟨n, rfl, _, hw⟩ := DataW.trod_int Tryd.underlying3 h
  refine ⟨[.int .i64 n], n, fun _ => False, fun j u h => h, rfl, ?_⟩
  simpa [Lit.wf, I64, IntKind.min, IntKind.max, IntKind.signed, IntKind.bits] using hw
theorem opens_row {α : Type} {E : Rep α} {e t : TypeId} (he : Opens enc W base spare held E e) (ht : Tryd.prog.underlying t = some (.slice e)) (hc : Tryd.prog.cellsOf e = E.size) (hpos : 0 < E.size) : Opens enc W base spare held (Rep.row E) t := fun fuel cs y h => by
  rcases open_slice ht h with ⟨rfl, _⟩ | ⟨a, len, cap, m, n, D, Pl, rfl, _, hl, hm, hmm, _, hi⟩
  · exact ⟨[.slice none 0 0], [], fun _ => False, fun j u h => h, _, rfl, RowRd.nil _ _ _⟩
  · have hlm : len ≤ m := by rw [hmm]; split <;> omega
    obtain ⟨l, hln, hel⟩ := pick_of (n := len) (p := fun i (x : α × (List Value × (Addr → Prop))) => E.rd false W x.2.1 x.1 x.2.2 ∧ ∀ j u, x.2.1[j]? = some u → W.cell? (a.add (i * E.size + j)) = some u) fun i hin => by
      obtain ⟨cs', hcc, htr⟩ := hi i (by omega)
      obtain ⟨ys, x, F, h1, h2⟩ := he _ _ _ htr
      refine ⟨⟨x, ys, F⟩, h2, fun j u hj => ?_⟩
      obtain ⟨_, hlen, hat⟩ := World.cells?_some hcc
      have hj' : j < Tryd.prog.cellsOf e := by rw [← hlen]; exact (List.getElem?_eq_some_iff.1 (h1 j u hj)).1
      have := hat j hj'
      rw [h1 j u hj, add_add, hc] at this
      exact this
    have hmx : len ≤ 9223372036854775807 := by unfold maxLen at hm; omega
    refine ⟨[.slice (some a) len cap], l.map (·.1), fun _ => True, fun j u h => h, _, rfl, some a, cap, fun k => ((l.map (·.2.2))[k]?).getD (fun _ => False), by simp [hln], ⟨by simpa [hln] using hmx, (fun h => by cases h), by simpa [hln] using hl⟩, fun k x hk => ?_⟩
    rw [List.getElem?_map] at hk
    cases hz : l[k]? with
    | none => rw [hz] at hk; cases hk
    | some z =>
      rw [hz] at hk
      cases hk
      obtain ⟨h1, h2⟩ := hel k z hz
      obtain ⟨b, off, spot⟩ := a
      have hsp : spot = none := by
        have hk0 : 0 < l.length := Nat.lt_of_le_of_lt (Nat.zero_le _) (List.getElem?_eq_some_iff.1 hz).1
        obtain ⟨g1, g2⟩ := hel 0 _ (List.getElem?_eq_getElem hk0)
        have hj0 : 0 < (l[0]).2.1.length := by rw [E.len g1]; exact hpos
        have := g2 0 _ (List.getElem?_eq_getElem hj0)
        simpa [Addr.add] using World.cell?_spot this
      subst hsp
      have he2 : ∀ j, (⟨b, off, none⟩ : Addr).add j = ⟨b, off + j, none⟩ := fun j => by unfold Addr.add; split <;> simp_all
      refine ⟨b, off, z.2.1, rfl, ?_, fun _ _ => trivial, fun j u hj => ⟨?_, trivial, fun hs => by cases hs⟩, fun hs => by cases hs⟩
      · simpa [List.getElem?_map, hz] using h1
      · have := h2 j u hj
        rw [he2, ← Nat.add_assoc] at this
        exact this
theorem arg_int {v : Value} {d : DataW H} {p : List MemPlace} {b0 : Nat} (hval : Value.okWide Tryd.prog W .any b0 3 v) (h : DataW.Trod enc Tryd.prog W 0 (fun _ => true) held 3 v d p) : ∃ n : Int, v = .int .i64 n ∧ I64 n := by
  obtain ⟨fuel, hf⟩ := h
  obtain ⟨n, hv, _, hw⟩ := DataW.trod_int Tryd.underlying3 hf
  refine ⟨n, ?_, by simpa [Lit.wf, I64, IntKind.min, IntKind.max, IntKind.signed, IntKind.bits] using hw⟩
  obtain ⟨m, rfl⟩ := okWide_int Tryd.underlying3 hval
  simp [Value.cells] at hv
  rw [hv]
theorem arg_row {α : Type} {E : Rep α} {e t : TypeId} (he : Opens enc W 0 (fun _ => true) held E e) (ht : Tryd.prog.underlying t = some (.slice e)) (hc : Tryd.prog.cellsOf e = E.size) (hpos : 0 < E.size)
    {v : Value} {d : DataW H} {p : List MemPlace} {b0 : Nat} (hval : Value.okWide Tryd.prog W .any b0 t v) (h : DataW.Trod enc Tryd.prog W 0 (fun _ => true) held t v d p) : ∃ (l : List α) (F : Addr → Prop), RowRd E false W v l F := by
  obtain ⟨a0, len0, cap0, rfl⟩ := okWide_slice ht hval
  obtain ⟨fuel, hf⟩ := h
  obtain ⟨ys, l, F, hy, v', rfl, hr⟩ := opens_row he ht hc hpos _ _ _ hf
  have := hy 0 v' rfl
  simp [Value.cells] at this
  subst this
  exact ⟨l, F, hr⟩
end
/-- An argument that is a struct by value: its cells. -/
theorem agg_of {cs : Array Value} {ys : List Value} (h : ∀ (j : Nat) (u : Value), ys[j]? = some u → cs.toList[j]? = some u) (hl : ys.length = cs.size) : cs = ys.toArray := by
  apply Array.toList_inj.1
  apply List.ext_getElem?
  intro j
  by_cases hj : j < ys.length
  · rw [h j _ (List.getElem?_eq_getElem hj)]; simp [hj]
  · rw [List.getElem?_eq_none (by simp; omega), List.getElem?_eq_none (by simp; omega)]
theorem at_part {cs : List Value} {k n : Nat} {j : Nat} {u : Value} (h : ((cs.drop k).take n)[j]? = some u) : cs[k + j]? = some u := by
  have hj : j < n := by
    have := (List.getElem?_eq_some_iff.1 h).1
    rw [List.length_take] at this
    omega
  rwa [List.getElem?_take_of_lt hj, List.getElem?_drop] at h
end Go.Proofs.YtnildbalaedlgaaDoor
