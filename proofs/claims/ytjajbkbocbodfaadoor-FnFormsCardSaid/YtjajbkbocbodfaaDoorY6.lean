/- The model's CountSyllables, IsRegular: what they answer. -/
import Derived.Test.YtjajbkbocbodfaaDoorY5
namespace Go.Proofs.YtjajbkbocbodfaaDoor
open Go.RowKit M

theorem specCountS_any (s : ByteArray) (w : World) (hs : s.size ≤ maxLen) :
    Calls Tryd.prog 44 #[.string s] w fun e w' => e = .returned (.int .i64 ((sylL s).length : Int)) ∧ Below w.heap.size w w' := by
  have HS := Lib.hid (specSyl_any s w hs)
  have hl := sylL_len s
  clear hs
  go_enter Tryd.func44, Tryd.ntmps44
  go_wp2_with fail
  refine HS.out.mono ?_
  rintro e w1 ⟨v, rfl, hown, hb⟩
  obtain ⟨A, cap, rfl, _⟩ := syl_read hown
  have HB := Lib.hid hb
  clear hown hb
  go_wp2
  go_ret
  exact ⟨rfl, HB.out⟩
def okSyl (x : Syl) : Bool := decide (x.o.length = 1) && decide (x.c.length ≤ 1)
def regL (l : List Syl) : Bool := l.all okSyl && decide (0 < l.length)
theorem regL_no {l : List Syl} (k : Nat) (h : k < l.length) (hn : okSyl (l.getD k syZ) = false) : regL l = false := by
  have : l.all okSyl = false := by
    rw [List.all_eq_false]
    refine ⟨l[k], List.getElem_mem h, ?_⟩
    rw [List.getD_eq_getElem?_getD, List.getElem?_eq_getElem h] at hn
    simpa using hn
  unfold regL; rw [this, Bool.false_and]
theorem regL_all {l : List Syl} (h : ∀ k, k < l.length → okSyl (l.getD k syZ) = true) : regL l = decide (0 < l.length) := by
  have : l.all okSyl = true := by
    rw [List.all_eq_true]
    intro x hx
    obtain ⟨k, hk, rfl⟩ := List.mem_iff_getElem.1 hx
    have := h k hk
    rw [List.getD_eq_getElem?_getD, List.getElem?_eq_getElem hk] at this
    exact this
  unfold regL; rw [this, Bool.true_and]
theorem specReg_any (s : ByteArray) (w : World) (hs : s.size ≤ maxLen) :
    Calls Tryd.prog 30 #[.string s] w fun e w' => e = .returned (.bool (regL (sylL s))) ∧ Below w.heap.size w w' := by
  have HS := Lib.hid (specSyl_any s w hs)
  have hl := sylL_len s
  clear hs
  have HNO : Hid (∀ k, k < (sylL s).length → okSyl ((sylL s).getD k syZ) = false → regL (sylL s) = false) := fun k h hn => regL_no k h hn
  have HAL : Hid ((∀ k, k < (sylL s).length → okSyl ((sylL s).getD k syZ) = true) → regL (sylL s) = decide (0 < (sylL s).length)) := regL_all
  generalize regL (sylL s) = r at *
  go_enter Tryd.func30, Tryd.ntmps30
  go_wp2_with fail
  refine HS.out.mono ?_
  rintro e w1 ⟨v, rfl, hown, hb⟩
  obtain ⟨A, cap, rfl, hrd⟩ := syl_read hown
  have HB := Lib.hid hb
  have HRD := Lib.hid hrd
  clear hown hb hrd
  generalize sylL s = l at *
  generalize hll : l.length = n at *
  clear hll
  go_wp2
  go_loopw [4] (fun i wr => ∃ (k : Nat), k ≤ n ∧ i = .int .i64 k ∧ Hid (∀ j, j < k → okSyl (l.getD j syZ) = true) ∧ wr = w1) (fun i _ => n - (intOf i).toNat)
  case atStart => exact ⟨0, by omega, rfl, fun j hj => by omega, rfl⟩
  case round =>
    obtain ⟨k, hk, rfl, hall, rfl⟩ := hrel
    by_cases hkl : k < n
    · obtain ⟨g, rfl, h0, h1, h2⟩ := HRD.out k hkl
      have s0 := bs_size (l.getD k syZ).o
      have s2 := bs_size (l.getD k syZ).c
      have HOK : Hid (okSyl (l.getD k syZ) = (decide ((l.getD k syZ).o.length = 1) && decide ((l.getD k syZ).c.length ≤ 1))) := rfl
      have HNK := Lib.hid (HNO.out k hkl)
      have hcase : okSyl (l.getD k syZ) = true ∨ okSyl (l.getD k syZ) = false := by cases okSyl (l.getD k syZ) <;> simp
      have HST : Hid (okSyl (l.getD k syZ) = true → ∀ j, j < k + 1 → okSyl (l.getD j syZ) = true) := fun h j hj => by
        by_cases hjk : j = k
        · subst hjk; exact h
        · exact hall.out j (by omega)
      generalize okSyl (l.getD k syZ) = b at *
      generalize bs (l.getD k syZ).o = O at *
      generalize bs (l.getD k syZ).n = N at *
      generalize bs (l.getD k syZ).c = C at *
      generalize (l.getD k syZ).o.length = lo at *
      generalize (l.getD k syZ).c.length = lc at *
      go_wp2
      · have hb0 : b = false := by rw [HOK.out]; simp; omega
        go_ret
        exact ⟨ret_bool (HNK.out hb0).symm, HB.out⟩
      · have hb1 : b = true := by rw [HOK.out]; simp; omega
        go_roundw
        case rel => exact ⟨k + 1, by omega, by go_num, HST.out hb1, trivial⟩
        case measure => simp [intOf]; omega
      · have hb0 : b = false := by rw [HOK.out]; simp; omega
        go_ret
        exact ⟨ret_bool (HNK.out hb0).symm, HB.out⟩
    · obtain rfl : k = n := by omega
      have HE := Lib.hid (HAL.out hall.out)
      go_wp2
      go_ret
      exact ⟨ret_bool (by rw [HE.out]), HB.out⟩
end Go.Proofs.YtjajbkbocbodfaaDoor
