/- Names of constraints: the text of a list, of both: what they answer. -/
import Derived.Test.YtnildbalaedlgaaMt10
import Derived.Test.YtnildbalaedlgaaIn10
import Derived.Test.YtnildbalaedlgaaN10
import Derived.Test.YtnildbalaedlgaaLj
namespace Go.Proofs.Ytnildbalaedlgaa
set_option maxRecDepth 100000
open Go.RowKit Go.Sort M
set_option linter.unusedVariables false
set_option linter.unusedSimpArgs false

theorem fmtN_no {l : List ByteArray} (h : areC l = false) : fmtN l = ⟨#[]⟩ := by unfold fmtN; rw [h]; rfl
theorem fmtN_yes {l : List ByteArray} (h : areC l = true) : fmtN l = joinN l l.length := by unfold fmtN; rw [if_pos h]
theorem add_any10 (t u : ByteArray) (h : t.size + u.size ≤ 1000) (w : World) : (Op.stringOp .add t u).run Try.prog w = .ok (.string (t ++ u)) w := run_string_add_sum _ _ _ (by omega)
theorem joinN_first (l : List ByteArray) (x : ByteArray) (h : l[0]? = some x) : joinN l 1 = ⟨#[]⟩ ++ x := by
  unfold joinN
  rw [if_neg (Nat.lt_irrefl 0), List.getD_eq_getElem?_getD, h]; rfl
theorem joinN_next (l : List ByteArray) (k : Nat) (x : ByteArray) (hk : 0 < k) (h : l[k]? = some x) : joinN l (k + 1) = joinN l k ++ ⟨#[44]⟩ ++ x := by
  conv => lhs; unfold joinN
  rw [if_pos hk, List.getD_eq_getElem?_getD, h]; rfl
set_option maxHeartbeats 2000000 in
theorem specFmtN_any (m : Nat → ByteArray) (l : List ByteArray) (A : Option Addr) (cap : Nat) (F : Addr → Prop) (w : World) (hl : l.length ≤ 1000000000) (hcap : l.length ≤ cap) (hv : RowRd (Rep.str m) false w (.slice A l.length cap) l F) :
    Calls Try.prog 27 #[.slice A l.length cap] w fun e w' => e = .returned (.string (fmtN l)) ∧ Below w.heap.size w w' := by
  have HV := Lib.hid hv
  clear hv
  have HX : Hid (∀ k, k < l.length → ∃ y, l[k]? = some y) := fun k hk => ⟨_, List.getElem?_eq_getElem hk⟩
  go_enter Try.func27, Try.ntmps27
  go_wp2
  go_loopw [3, 4] (fun s i wr => ∃ (k : Nat), k ≤ l.length ∧ i = .int .i64 k ∧ s = .string (joinN l k) ∧ (0 < k → areC l = true) ∧ Below w.heap.size w wr) (fun _ i _ => l.length - (intOf i).toNat)
  case atStart => exact ⟨0, by omega, rfl, rfl, fun h => by omega, Below.refl _ _⟩
  case round =>
    obtain ⟨k, hk, rfl, rfl, hpos, hbe0⟩ := hrel
    have HB := Lib.hid hbe0
    have HP := Lib.hid hpos
    clear hbe0 hpos
    by_cases hkl : k < l.length
    · obtain ⟨y, hy⟩ := HX.out k hkl
      have HA : Hid (∀ W, Below wr.heap.size wr W → Calls Try.prog 25 #[.slice A l.length cap] W fun e w' => e = .returned (.bool (areC l)) ∧ Below W.heap.size W w') := fun W hW => specAre_any m l A cap F W hl hcap ((HV.out.kept HB.out).kept hW)
      have HY := Lib.hid hy
      clear hy
      go_wp2_with fail
      refine (HA.out _ (Below.refl _ _)).mono ?_
      rintro e w2 ⟨rfl, hb2⟩
      have HB2 := Lib.hid (HB.out.trans (hb2.mono HB.out.size))
      clear hb2 HA
      cases hc : areC l with
      | false =>
        have HK : Hid (k = 0) := by unfold Hid; rcases Nat.eq_zero_or_pos k with h | h
                                    · exact h
                                    · rw [HP.out h] at hc; cases hc
        have HN : Hid (fmtN l = joinN l k) := by unfold Hid; rw [fmtN_no hc, HK.out]; rfl
        go_wp2
        go_ret
        exact ⟨ret_str HN.out.symm, HB2.out⟩
      | true =>
        have hvk := HV.out.kept HB2.out
        obtain ⟨g, off, xs, Fk, rfl, _, hra, _, hca⟩ := hvk.get HY.out
        obtain ⟨rfl, hys⟩ := hra
        rw [show (Rep.str m).size = 1 from rfl] at hca
        have c0 := hca 0 _ rfl
        simp only [Nat.add_zero, Nat.mul_one] at c0
        clear hca hvk
        have hsz := joinN_size hc k hk
        have hl5 := (areC_len hc).2
        have hy7 := name_size (areC_mem hc HY.out).1
        rcases Nat.eq_zero_or_pos k with h0 | h0
        · subst h0
          simp only [Nat.add_zero] at c0
          have HN := Lib.hid (joinN_first l y HY.out)
          have hadd := add_any10 (⟨#[]⟩ : ByteArray) y (by have : (⟨#[]⟩ : ByteArray).size = 0 := rfl; omega)
          rw [show joinN l 0 = ⟨#[]⟩ from rfl]
          go_wp2
          go_roundw
          case rel => exact ⟨1, by omega, by go_num, by rw [HN.out], fun _ => hc, HB2.out⟩
          case measure => simp [intOf]; omega
        · have HN := Lib.hid (joinN_next l k y h0 HY.out)
          generalize joinN l k = J at *
          have hadd := add_any10 J (⟨#[44]⟩ : ByteArray) (by have : (⟨#[44]⟩ : ByteArray).size = 1 := rfl; omega)
          have hadd2 := add_any10 (J ++ (⟨#[44]⟩ : ByteArray)) y (by rw [ByteArray.size_append]; have : (⟨#[44]⟩ : ByteArray).size = 1 := rfl; omega)
          have h0i : (0 : Int) < (k : Int) := by omega
          go_wp2
          go_roundw
          case rel => exact ⟨k + 1, by omega, by go_num, by rw [HN.out], fun _ => hc, HB2.out⟩
          case measure => simp [intOf]; omega
    · obtain rfl : k = l.length := by omega
      have HN : Hid (fmtN l = joinN l l.length) := by
        unfold Hid
        rcases Nat.eq_zero_or_pos l.length with h | h
        · have hc : areC l = false := areC_short (by omega)
          rw [fmtN_no hc, h]; rfl
        · exact fmtN_yes (HP.out h)
      clear HP
      go_wp2
      go_ret
      exact ⟨ret_str HN.out.symm, HB.out⟩
set_option maxHeartbeats 2000000 in
theorem implFmtN_any (m : Nat → ByteArray) (l : List ByteArray) (A : Option Addr) (cap : Nat) (F : Addr → Prop) (w : World) (hl : l.length ≤ 1000000000) (hcap : l.length ≤ cap) (hv : RowRd (Rep.str m) false w (.slice A l.length cap) l F) :
    Calls Try.prog 28 #[.slice A l.length cap] w fun e w' => e = .returned (.string (fmtN l)) ∧ Below w.heap.size w w' := by
  have HV := Lib.hid hv
  clear hv
  have HA := Lib.hid (implAre_any m l A cap F w hl hcap HV.out)
  go_enter Try.func28, Try.ntmps28
  go_wp2_with fail
  refine HA.out.mono ?_
  rintro e w1 ⟨rfl, hb⟩
  have HV1 := Lib.hid (HV.out.kept hb)
  have HB := Lib.hid hb
  clear hb
  cases hc : areC l with
  | false =>
    have HN := Lib.hid (fmtN_no hc)
    go_wp2
    go_ret
    exact ⟨ret_str HN.out.symm, HB.out⟩
  | true =>
    have hl5 := areC_len hc
    have HJ : Hid (fmtN l = ⟨(Lib.join (l.map (·.data.toList)) [44]).toArray⟩) := by unfold Hid; rw [fmtN_yes hc, join_all]
    have HL : Hid ((Lib.join (l.map (·.data.toList)) (⟨#[44]⟩ : ByteArray).data.toList).length ≤ 140737488355328) := by
      unfold Hid
      have h1 := join_all l
      have h2 := joinN_size hc l.length (Nat.le_refl _)
      rw [← h1] at h2
      have h3 : (⟨(Lib.join (l.map (·.data.toList)) [44]).toArray⟩ : ByteArray).size = (Lib.join (l.map (·.data.toList)) [44]).length := rfl
      rw [h3] at h2
      show (Lib.join (l.map (·.data.toList)) [44]).length ≤ _
      omega
    have HCells : Hid (∃ g off, A = some ⟨g, off, none⟩ ∧ g < w1.heap.size ∧ ∀ (j : Nat) x, l[j]? = some x → w1.cell? ⟨g, off + j, none⟩ = some (.string x)) := by
      have hx := List.getElem?_eq_getElem (l := l) (i := 0) (by omega)
      obtain ⟨g, off, xs, Fk, he, _, hra, _, hca⟩ := HV1.out.get hx
      obtain ⟨rfl, _⟩ := hra
      refine ⟨g, off, he, ?_, ?_⟩
      · have c0 := hca 0 _ rfl
        exact block_lt_of_cell c0
      · intro j x hj
        obtain ⟨g2, off2, xs2, Fk2, he2, _, hra2, _, hca2⟩ := HV1.out.get hj
        rw [he] at he2
        cases he2
        obtain ⟨rfl, _⟩ := hra2
        have c1 := hca2 0 _ rfl
        simpa [show (Rep.str m).size = 1 from rfl] using c1
    obtain ⟨g, off, rfl, hg, hcells⟩ := HCells.out
    have HCL := Lib.hid hcells
    clear hcells
    go_wp2_with fail
    refine (Try.strings_Join g off cap l ⟨#[44]⟩ w1 HCL.out hg (by omega) hcap HL.out).mono ?_
    rintro e w2 ⟨rfl, hb2⟩
    have HB2 := Lib.hid (HB.out.trans (hb2.mono HB.out.size))
    clear hb2
    go_wp2
    go_ret
    exact ⟨ret_str (by rw [HJ.out]), HB2.out⟩
end Go.Proofs.Ytnildbalaedlgaa
