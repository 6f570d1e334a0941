/- What a slice of syllables that came in holds; what a syllable that came in is. -/
import Derived.Test.YtjajbkbocbodfaaY2
import Derived.Deep.Slices
import Derived.Lib.SmallJoins
import Derived.ChangeSame
namespace Go.Proofs.Ytjajbkbocbodfaa
open Go.ChangeShapes Go.WideShapes Go.RowKit Go.Deep M

theorem head_of {cs : List Value} {k : Nat} {u : Value} (h : (cs.drop k).take 1 = [u]) : cs[k]? = some u := by
  have h1 : ((cs.drop k).take 1)[0]? = some u := by rw [h]; rfl
  rw [List.getElem?_take_of_lt (by omega), List.getElem?_drop] at h1
  simpa using h1
theorem pick_fun {n : Nat} {p : Nat → Syl → Prop} (h : ∀ i, i < n → ∃ x, p i x) : ∃ f : Nat → Syl, ∀ i, i < n → p i (f i) :=
  ⟨fun i => if c : i < n then Classical.choose (h i c) else syZ, fun i c => by simp only [dif_pos c]; exact Classical.choose_spec (h i c)⟩
section
variable {H : Type} {enc : TypeId × Value → H} {W : World} {base : Nat} {spare : Nat → Bool} {held : Bool}
theorem syl_cells {fuel : Nat} {cs : List Value} {y : DataW H × List MemPlace} (h : DataW.trod enc Try.prog W base spare held fuel 30 cs = some y) :
    ∃ x : Syl, Fits x ∧ cs[0]? = some (.string (bs x.o)) ∧ cs[1]? = some (.string (bs x.n)) ∧ cs[2]? = some (.string (bs x.c)) := by
  obtain ⟨xs, n, _, _, _, hl, hf⟩ := DataW.trod_struct Try.underlying30 h
  have hl3 : xs.length = 3 := hl
  have get : ∀ i, i < 3 → ∃ z, xs[i]? = some z := fun i hi => ⟨_, List.getElem?_eq_getElem (by omega)⟩
  obtain ⟨z0, e0⟩ := get 0 (by omega)
  obtain ⟨z1, e1⟩ := get 1 (by omega)
  obtain ⟨z2, e2⟩ := get 2 (by omega)
  obtain ⟨s0, h0, _, b0⟩ := DataW.trod_string Try.underlying9 ((hf 0 _ rfl).trans e0)
  obtain ⟨s1, h1, _, b1⟩ := DataW.trod_string Try.underlying9 ((hf 1 _ rfl).trans e1)
  obtain ⟨s2, h2, _, b2⟩ := DataW.trod_string Try.underlying9 ((hf 2 _ rfl).trans e2)
  refine ⟨⟨s0.data.toList, s1.data.toList, s2.data.toList⟩, ⟨by simpa using b0, by simpa using b1, by simpa using b2⟩, ?_, ?_, ?_⟩
  · rw [bs_self]; exact head_of h0
  · rw [bs_self]; exact head_of h1
  · rw [bs_self]; exact head_of h2
theorem yrow_of {v : Value} {d : DataW H} {p : List MemPlace} {b0 : Nat} (hval : Value.okWide Try.prog W .any b0 22 v) (h : DataW.Trod enc Try.prog W 0 (fun _ => true) held 22 v d p) :
    ∃ l : List Syl, YRow W v l ∧ (∀ k, k < l.length → Fits (l.getD k syZ)) ∧ l.length ≤ maxLen := by
  obtain ⟨a0, len0, cap0, rfl⟩ := okWide_slice Try.underlying22 hval
  obtain ⟨fuel, hf⟩ := h
  rcases open_slice Try.underlying22 hf with ⟨hcs, _⟩ | ⟨a, len, cap, m, n, D, Pl, hcs, _, hl, hm, hmm, _, hi⟩
  · simp [Value.cells] at hcs
    obtain ⟨rfl, rfl, rfl⟩ := hcs
    exact ⟨[], ⟨none, 0, rfl, fun k hk => by simp at hk⟩, fun k hk => by simp at hk, Nat.zero_le _⟩
  · simp [Value.cells] at hcs
    obtain ⟨rfl, rfl, rfl⟩ := hcs
    have hC : Try.prog.cellsOf 30 = 3 := by kernel_rfl
    simp only [if_true] at hmm
    rw [hC] at hi
    obtain ⟨f, hfn⟩ := pick_fun (n := len0) (p := fun i x => Fits x ∧ W.cell? (a.add (i * 3)) = some (.string (bs x.o)) ∧ W.cell? (a.add (i * 3 + 1)) = some (.string (bs x.n)) ∧ W.cell? (a.add (i * 3 + 2)) = some (.string (bs x.c))) fun i hin => by
      obtain ⟨cs', hc, ht⟩ := hi i (by omega)
      obtain ⟨x, hfx, q0, q1, q2⟩ := syl_cells ht
      obtain ⟨_, _, hat⟩ := World.cells?_some hc
      refine ⟨x, hfx, ?_, ?_, ?_⟩
      · have := hat 0 (by omega); rw [q0, add_add] at this; exact this
      · have := hat 1 (by omega); rw [q1, add_add] at this; exact this
      · have := hat 2 (by omega); rw [q2, add_add] at this; exact this
    have hll : ((List.range len0).map f).length = len0 := by simp
    have hg : ∀ k, k < len0 → ((List.range len0).map f).getD k syZ = f k := fun k hk => by
      rw [List.getD_eq_getElem?_getD, List.getElem?_map, List.getElem?_range hk]; rfl
    refine ⟨(List.range len0).map f, ⟨some a, cap0, by rw [hll], fun k hk => ?_⟩, fun k hk => ?_, by rw [hll]; omega⟩
    · rw [hll] at hk
      obtain ⟨_, q0, q1, q2⟩ := hfn k hk
      rw [hg k hk]
      obtain ⟨_, r0, _⟩ := hfn 0 (by omega)
      obtain ⟨b, off, spot⟩ := a
      have hspot : spot = none := by simpa [Addr.add] using World.cell?_spot r0
      subst hspot
      have he : ∀ j, (⟨b, off, none⟩ : Addr).add j = ⟨b, off + j, none⟩ := fun j => by unfold Addr.add; split <;> simp_all
      rw [he] at q0 q1 q2
      exact ⟨b, off, rfl, q0, q1, q2⟩
    · rw [hll] at hk
      rw [hg k hk]
      exact (hfn k hk).1
theorem syl_of {v : Value} {d : DataW H} {p : List MemPlace} {b0 : Nat} (hval : Value.okWide Try.prog W .any b0 30 v) (h : DataW.Trod enc Try.prog W 0 (fun _ => true) held 30 v d p) :
    ∃ x : Syl, v = sylV x ∧ Fits x := by
  obtain ⟨v0, v1, v2, y0, y1, y2, n, rfl, _, _, h0, h1, h2⟩ := Go.Joins.open_agg3 Try.underlying30 (by kernel_rfl) (by kernel_rfl) hval h
  obtain ⟨s0, e0, _, b0⟩ := DataW.trod_string Try.underlying9 h0
  obtain ⟨s1, e1, _, b1⟩ := DataW.trod_string Try.underlying9 h1
  obtain ⟨s2, e2, _, b2⟩ := DataW.trod_string Try.underlying9 h2
  obtain rfl : v0 = .string s0 := by simpa using e0
  obtain rfl : v1 = .string s1 := by simpa using e1
  obtain rfl : v2 = .string s2 := by simpa using e2
  exact ⟨⟨s0.data.toList, s1.data.toList, s2.data.toList⟩, by unfold sylV; rw [bs_self, bs_self, bs_self], ⟨by simpa using b0, by simpa using b1, by simpa using b2⟩⟩
end
end Go.Proofs.Ytjajbkbocbodfaa
