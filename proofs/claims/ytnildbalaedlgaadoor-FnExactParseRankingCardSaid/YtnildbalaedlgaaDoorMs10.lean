/- Names of constraints: the model's ConstraintNames, l3Has, IsMarkedness: what they answer. -/
import Derived.Test.YtnildbalaedlgaaDoorM10
import Derived.Test.YtnildbalaedlgaaDoorOpS
import Derived.Test.YtnildbalaedlgaaDoorAppS
import Derived.Test.YtnildbalaedlgaaDoorLk0
import Derived.Lib.QuietBelow
import Derived.BigRegion
import Derived.BigQuiet
namespace Go.Proofs.YtnildbalaedlgaaDoor
set_option maxRecDepth 100000
open Go.RowKit Go.Sort M
set_option linter.unusedVariables false
set_option linter.unusedSimpArgs false

theorem toList_inj10 {a b : ByteArray} (h : a.toList = b.toList) : a = b := by
  rw [Lib.toList_data, Lib.toList_data] at h
  apply ByteArray.ext
  exact Array.toList_inj.1 h
theorem RowRd.of_strs {w : World} {base : Nat} {v : Value} {l : List ByteArray} (m : Nat → ByteArray) (h : w.ownsRow base 9 1 v l.length (cellsS l)) (hm : l.length ≤ 9223372036854775807) (hz : ∀ z ∈ l, z.size ≤ 9223372036854775807) : RowRd (Rep.str m) true w v l (fun a => base ≤ a.block ∧ a.block < w.heap.size) :=
  RowRd.of_flat (E := Rep.str m) h hm fun k x hk => ⟨[.string x], fun j u hj => by
    match j, hj with
    | 0, hj =>
      simp at hj
      subst hj
      have hkl := (List.getElem?_eq_some_iff.1 hk).1
      rw [show (Rep.str m).size = 1 from rfl, Nat.mul_one, Nat.add_zero, cellsS_at l k hkl, List.getD_eq_getElem?_getD, hk]
      rfl, rfl, hz x (List.mem_of_getElem? hk)⟩
/-- A new row of these texts. -/
theorem str_new (w : World) (l : List ByteArray) (n : Nat) (cs : Array Value) (hn : l.length = n) (hc : cs.toList = cellsS l) (hm : n ≤ 1000000) : (w.alloc (.cells cs 9)).ownsRow w.heap.size 9 1 (.slice (some ⟨w.heap.size, 0, none⟩) n n) l.length (cellsS l) := by
  subst hn
  have hs : cs.size = l.length := by rw [← Array.length_toList, hc, cellsS_len]
  exact ⟨by rw [cellsS_len, Nat.mul_one], Or.inr ⟨w.heap.size, l.length, cs, rfl, Nat.le_refl _, heap_alloc_new _ _, Nat.le_refl _, by unfold maxLen; omega, by rw [hs, Nat.mul_one], by rw [hc, Nat.mul_one, ← cellsS_len l, List.take_length]⟩⟩
/-- The ten names in a row of one's own. -/
def NmPost (w : World) (e : Ending) (w' : World) : Prop := ∃ g cap, e = .returned (.slice (some ⟨g, 0, none⟩) 10 cap) ∧ 10 ≤ cap ∧ cap ≤ 1000000 ∧ w.heap.size ≤ g ∧ w'.ownsRow w.heap.size 9 1 (.slice (some ⟨g, 0, none⟩) 10 cap) namesB.length (cellsS namesB) ∧ Below w.heap.size w w'
theorem names_short : ∀ z ∈ namesB, z.size ≤ 9223372036854775807 := fun z hz => by
  obtain ⟨k, hk, rfl⟩ := List.getElem_of_mem hz
  have := name_size (hasB_yes (List.getElem?_eq_getElem hk))
  omega
theorem specNames_any (w : World) : Calls Tryd.prog 26 #[] w (NmPost w) := by
  go_enter Tryd.func26, Tryd.ntmps26
  go_wp2
  go_ret
  exact ⟨_, _, rfl, Nat.le_refl _, by omega, Nat.le_refl _, str_new w namesB 10 _ rfl rfl (by omega), (Below.refl _ _).alloc (Nat.le_refl _) _⟩
/-- Some places of a row, one after the other. -/
theorem RowRd.part {α : Type} {E : Rep α} {w : World} {g off n cap : Nat} {l : List α} {F : Addr → Prop} (h : RowRd E false w (.slice (some ⟨g, off, none⟩) n cap) l F) (f e c : Nat) (he : e ≤ l.length) (hc : e - f ≤ c) :
    RowRd E false w (.slice (some ⟨g, off + f * E.size, none⟩) (e - f) c) ((l.take e).drop f) F := by
  have hm := h.max
  obtain ⟨A', cap', Fk, hv, _, hr⟩ := h
  cases hv
  have hlen : ((l.take e).drop f).length = e - f := by rw [List.length_drop, List.length_take]; omega
  refine ⟨some ⟨g, off + f * E.size, none⟩, c, fun k => Fk (f + k), by rw [hlen], ⟨by rw [hlen]; omega, (fun h => by cases h), by rw [hlen]; exact hc⟩, fun k x hk => ?_⟩
  have hk1 : k < e - f := by rw [← hlen]; exact (List.getElem?_eq_some_iff.1 hk).1
  rw [List.getElem?_drop, List.getElem?_take, if_pos (by omega)] at hk
  obtain ⟨g2, off2, xs, ha, h1, h2, h3, h4⟩ := hr (f + k) x hk
  cases ha
  refine ⟨g, off + f * E.size, xs, rfl, h1, h2, fun j u hj => ?_, fun h => by cases h⟩
  have h5 := h3 j u hj
  rw [Nat.add_mul, ← Nat.add_assoc] at h5
  exact ⟨h5.1, h5.2.1, fun h => by cases h⟩
/-- The first places of a row. -/
theorem RowRd.head {α : Type} {E : Rep α} {w : World} {g off n cap : Nat} {l : List α} {F : Addr → Prop} (h : RowRd E false w (.slice (some ⟨g, off, none⟩) n cap) l F) (e c : Nat) (he : e ≤ l.length) (hc : e ≤ c := by omega) :
    RowRd E false w (.slice (some ⟨g, off, none⟩) e c) (l.take e) F := by
  have := h.part 0 e c he (by omega)
  simpa using this
set_option maxHeartbeats 1000000 in
theorem specHasN_any (m : Nat → ByteArray) (l : List ByteArray) (v : Value) (F : Addr → Prop) (x : ByteArray) (w : World) (hl : l.length ≤ 1000000000) (hv : RowRd (Rep.str m) false w v l F) :
    Calls Tryd.prog 25 #[v, .string x] w fun e w' => e = .returned (.bool (hasB l x)) ∧ w = w' := by
  obtain ⟨A, cap, rfl⟩ := hv.form
  have HV := Lib.hid hv
  clear hv
  have HX : Hid (∀ k, k < l.length → ∃ y, l[k]? = some y) := fun k hk => ⟨_, List.getElem?_eq_getElem hk⟩
  go_enter Tryd.func25, Tryd.ntmps25
  go_wp2
  go_loop [5] (fun i => ∃ (k : Nat), k ≤ l.length ∧ i = .int .i64 k ∧ Hid (∀ (j : Nat) (y : ByteArray), j < k → l[j]? = some y → ¬ y = x)) (fun i => l.length - (intOf i).toNat)
  case atStart => exact ⟨0, by omega, rfl, fun j y hj => by omega⟩
  case round =>
    obtain ⟨k, hk, rfl, hall⟩ := hrel
    by_cases hkl : k < l.length
    · obtain ⟨y, hy⟩ := HX.out k hkl
      obtain ⟨g, off, xs, Fk, rfl, _, hra, _, hca⟩ := HV.out.get hy
      obtain ⟨rfl, _⟩ := hra
      rw [show (Rep.str m).size = 1 from rfl] at hca
      have c0 := hca 0 _ rfl
      simp only [Nat.add_zero, Nat.mul_one] at c0
      clear hca
      have HY := Lib.hid hy
      clear hy
      go_wp2
      · have hq : (y.toList == x.toList) = true := by assumption
        have he : y = x := by
          rw [beq_iff_eq] at hq
          exact toList_inj10 hq
        have HN : Hid (hasB l x = true) := he ▸ hasB_yes HY.out
        go_ret
        exact ⟨by first | exact ret_bool HN.out | exact ret_bool HN.out.symm, rfl⟩
      · rename_i hq
        have he : ¬ y = x := fun e => by rw [e] at hq; simp at hq
        go_round
        case rel =>
          refine ⟨k + 1, by omega, by go_num, fun j z hj hz => ?_⟩
          by_cases e : j = k
          · subst e; rw [HY.out] at hz; cases hz; exact he
          · exact hall.out j z (by omega) hz
        case measure => simp [intOf]; omega
    · obtain rfl : k = l.length := by omega
      have HN : Hid (hasB l x = false) := hasB_no fun j y hj => hall.out j y (List.getElem?_eq_some_iff.1 hj).1 hj
      clear hall
      go_wp2
      go_ret
      exact ⟨by first | exact ret_bool HN.out | exact ret_bool HN.out.symm, rfl⟩
end Go.Proofs.YtnildbalaedlgaaDoor
