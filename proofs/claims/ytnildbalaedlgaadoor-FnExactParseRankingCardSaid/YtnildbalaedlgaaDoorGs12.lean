/- The text of a ranking: the model's FormatRanking: what it answers. -/
import Derived.Test.YtnildbalaedlgaaDoorGm12
import Derived.Test.YtnildbalaedlgaaDoorSk12
namespace Go.Proofs.YtnildbalaedlgaaDoor
set_option maxRecDepth 100000
open Go.RowKit Go.Sort M
set_option linter.unusedVariables false
set_option linter.unusedSimpArgs false

theorem add_any12 (t u : ByteArray) (h : t.size + u.size ≤ 1000) (w : World) : (Op.stringOp .add t u).run Tryd.prog w = .ok (.string (t ++ u)) w := run_string_add_sum _ _ _ (by omega)
set_option maxHeartbeats 2000000 in
theorem specFmtRk_any (m : Nat → ByteArray) (l : List ByteArray) (r : List Int) (A : Option Addr) (cap : Nat) (vr : Value) (F Fr : Addr → Prop) (w : World) (hl : l.length ≤ 1000000000) (hcap : l.length ≤ cap) (hv : RowRd (Rep.str m) false w (.slice A l.length cap) l F) (hvr : RowRd Rep.int false w vr r Fr) :
    Calls Tryd.prog 19 #[.slice A l.length cap, vr] w fun e w' => e = .returned (.string (fmtRk l r)) ∧ Below w.heap.size w w' := by
  have hmr := hvr.max
  obtain ⟨Ar, kr, rfl⟩ := hvr.form
  have HA := Lib.hid (specAre_any m l A cap F w hl hcap hv)
  have HRK : Hid (∀ W, Below w.heap.size w W → Calls Tryd.prog 28 #[.slice Ar r.length kr, .int .i64 (l.length : Int)] W fun e w' => e = .returned (.bool (rkB r l.length)) ∧ Below W.heap.size W w') := fun W hW => specRk_any r (l.length : Int) _ Fr W (by unfold I64; omega) (hvr.kept hW)
  have HV := Lib.hid hv
  have HR := Lib.hid hvr
  have HN : Hid ((areC l && rkB r l.length) = false → fmtRk l r = ⟨#[]⟩) := fun h => by unfold fmtRk; rw [h]; rfl
  have HY : Hid (areC l = true → rkB r l.length = true → fmtRk l r = joinG (rkN l r) r.length) := fun h1 h2 => by unfold fmtRk; rw [h1, h2]; rfl
  have HPL : Hid (areC l = true → rkB r l.length = true → ∀ i, i < r.length → ∃ j x, r[i]? = some ((j : Nat) : Int) ∧ j < l.length ∧ l[j]? = some x ∧ (rkN l r)[i]? = some x ∧ x.size ≤ 7) := fun h1 h2 i hi => by
    obtain ⟨j, x, q1, q2, q3, q4⟩ := rkN_place h2 hi
    exact ⟨j, x, q1, q2, q3, q4, rkN_size h1 h2 x (List.mem_of_getElem? q4)⟩
  have HSZ : Hid (areC l = true → rkB r l.length = true → ∀ k, k ≤ r.length → (joinG (rkN l r) k).size ≤ 8 * k) := fun h1 h2 k hk => joinG_size (rkN_size h1 h2) k (by rw [rkN_len]; exact hk)
  have HLN : Hid (rkB r l.length = true → r.length ≤ 5) := fun h => by have := rk_len h; omega
  clear hv hvr
  generalize fmtRk l r = z at *
  generalize rkN l r = R at *
  generalize hra : areC l = ra at *
  generalize hrb : rkB r (l.length : Int) = rb at *
  clear hra hrb
  go_enter Tryd.func19, Tryd.ntmps19
  go_wp2_with fail
  refine HA.out.mono ?_
  rintro e w1 ⟨rfl, hb1⟩
  have HB1 := Lib.hid hb1
  clear hb1 HA
  cases ra
  case false =>
    have HZ := Lib.hid (HN.out rfl)
    go_wp2
    go_ret
    exact ⟨ret_str HZ.out.symm, HB1.out⟩
  go_wp2_with fail
  refine (HRK.out _ HB1.out).mono ?_
  rintro e w2 ⟨rfl, hb2⟩
  have HB2 := Lib.hid (HB1.out.trans (hb2.mono HB1.out.size))
  clear hb2 HB1 HRK
  cases rb
  case false =>
    have HZ := Lib.hid (HN.out rfl)
    go_wp2
    go_ret
    exact ⟨ret_str HZ.out.symm, HB2.out⟩
  have HZ := Lib.hid (HY.out (by trivial) (by trivial))
  have HP2 := Lib.hid (HPL.out (by trivial) (by trivial))
  have HS2 := Lib.hid (HSZ.out (by trivial) (by trivial))
  have hr5 := HLN.out (by trivial)
  clear HN HY HPL HSZ HLN
  generalize hln : r.length = n at *
  generalize hll : l.length = N at *
  go_wp2
  go_loopw [5, 6] (fun s i wr => ∃ (k : Nat), k ≤ n ∧ i = .int .i64 k ∧ s = .string (joinG R k) ∧ Below w.heap.size w wr) (fun _ i _ => n - (intOf i).toNat)
  case atStart => exact ⟨0, by omega, rfl, rfl, HB2.out⟩
  case round =>
    obtain ⟨k, hk, rfl, rfl, hbe⟩ := hrel
    obtain ⟨w3, rfl⟩ : ∃ w3 : World, w3 = wr := ⟨_, rfl⟩
    have HBE := Lib.hid hbe
    clear hbe
    by_cases hkl : k < n
    · obtain ⟨j, x, hj, hjl, hx, hR, hx7⟩ := HP2.out k hkl
      have hsz := HS2.out k hk
      have hkr : (k : Int) < (n : Int) := by omega
      have hj1 : (j : Int) < (N : Int) := by omega
      obtain ⟨g1, o1, xs1, F1, rfl, _, ha1, _, hc1⟩ := (HV.out.kept HBE.out).get hx
      obtain ⟨g3, o3, xs3, F3, rfl, _, ha3, _, hc3⟩ := (HR.out.kept HBE.out).get hj
      obtain ⟨rfl, hxi⟩ := id ha1
      obtain ⟨rfl, hji⟩ := id ha3
      have c1 := hc1 0 _ rfl
      have c3 := hc3 0 _ rfl
      simp only [show Rep.int.size = 1 from rfl, show (Rep.str m).size = 1 from rfl, Nat.mul_one, Nat.add_zero] at c1 c3
      clear hc1 hc3 ha1 ha3 hx hj
      rcases Nat.eq_zero_or_pos k with h0 | h0
      · subst h0
        simp only [Nat.add_zero] at c3
        have HNX := Lib.hid (joinG_first R x hR)
        have hadd := add_any12 (⟨#[]⟩ : ByteArray) x (by have : (⟨#[]⟩ : ByteArray).size = 0 := rfl; omega)
        rw [show joinG R 0 = ⟨#[]⟩ from rfl]
        clear hR
        go_wp2
        go_roundw
        case rel => exact ⟨1, by omega, by go_num, by rw [HNX.out], HBE.out⟩
        case measure => simp [intOf]; omega
      · have HNX := Lib.hid (joinG_next R k x h0 hR)
        generalize joinG R k = J at *
        have hadd := add_any12 J (⟨#[62]⟩ : ByteArray) (by have : (⟨#[62]⟩ : ByteArray).size = 1 := rfl; omega)
        have hadd2 := add_any12 (J ++ (⟨#[62]⟩ : ByteArray)) x (by rw [ByteArray.size_append]; have : (⟨#[62]⟩ : ByteArray).size = 1 := rfl; omega)
        have h0i : (0 : Int) < (k : Int) := by omega
        clear hR
        go_wp2
        go_roundw
        case rel => exact ⟨k + 1, by omega, by go_num, by rw [HNX.out], HBE.out⟩
        case measure => simp [intOf]; omega
    · obtain rfl : k = n := by omega
      go_wp2
      go_ret
      exact ⟨ret_str HZ.out.symm, HBE.out⟩
end Go.Proofs.YtnildbalaedlgaaDoor
