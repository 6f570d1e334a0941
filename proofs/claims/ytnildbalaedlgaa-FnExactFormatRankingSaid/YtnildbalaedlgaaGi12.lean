/- The text of a ranking: the program's FormatRanking: what it answers. -/
import Derived.Test.YtnildbalaedlgaaGm12
import Derived.Test.YtnildbalaedlgaaIk12
import Derived.Test.YtnildbalaedlgaaIn10
import Derived.Test.YtnildbalaedlgaaLj
namespace Go.Proofs.Ytnildbalaedlgaa
set_option maxRecDepth 100000
open Go.RowKit Go.Sort M
set_option linter.unusedVariables false
set_option linter.unusedSimpArgs false

theorem infoStr12 : (Try.prog.info? 9).map (fun i => (i.zero, i.size, i.bytes)) = some (some (.string ⟨#[]⟩), 1, 16) := by kernel_rfl
set_option maxHeartbeats 2000000 in
theorem implFmtRk_any (m : Nat → ByteArray) (l : List ByteArray) (r : List Int) (A : Option Addr) (cap : Nat) (vr : Value) (F Fr : Addr → Prop) (w : World) (hl : l.length ≤ 1000000000) (hcap : l.length ≤ cap) (hv : RowRd (Rep.str m) false w (.slice A l.length cap) l F) (hvr : RowRd Rep.int false w vr r Fr) :
    Calls Try.prog 23 #[.slice A l.length cap, vr] w fun e w' => e = .returned (.string (fmtRk l r)) ∧ Below w.heap.size w w' := by
  have hmr := hvr.max
  obtain ⟨Ar, kr, rfl⟩ := hvr.form
  have HA := Lib.hid (implAre_any m l A cap F w hl hcap hv)
  have HRK : Hid (∀ W, Below w.heap.size w W → Calls Try.prog 11 #[.slice Ar r.length kr, .int .i64 (l.length : Int)] W fun e w' => e = .returned (.bool (rkB r l.length)) ∧ W = w') := fun W hW => implRk_any r (l.length : Int) _ Fr W (hvr.kept hW)
  have HV := Lib.hid hv
  have HR := Lib.hid hvr
  have HN : Hid ((areC l && rkB r l.length) = false → fmtRk l r = ⟨#[]⟩) := fun h => by unfold fmtRk; rw [h]; rfl
  have HY : Hid (areC l = true → rkB r l.length = true → fmtRk l r = ⟨(Lib.join ((rkN l r).map (·.data.toList)) [62]).toArray⟩) := fun h1 h2 => by unfold fmtRk; rw [h1, h2, joinG_all, rkN_len]; rfl
  have HPL : Hid (areC l = true → rkB r l.length = true → ∀ i, i < r.length → ∃ j x, r[i]? = some ((j : Nat) : Int) ∧ j < l.length ∧ l[j]? = some x ∧ (rkN l r)[i]? = some x ∧ x.size ≤ 7) := fun h1 h2 i hi => by
    obtain ⟨j, x, q1, q2, q3, q4⟩ := rkN_place h2 hi
    exact ⟨j, x, q1, q2, q3, q4, rkN_size h1 h2 x (List.mem_of_getElem? q4)⟩
  have HSZ : Hid (areC l = true → rkB r l.length = true → (Lib.join ((rkN l r).map (·.data.toList)) (⟨#[62]⟩ : ByteArray).data.toList).length ≤ 140737488355328) := fun h1 h2 => by
    have q1 := joinG_all (rkN l r)
    have q2 := joinG_size (rkN_size h1 h2) (rkN l r).length (Nat.le_refl _)
    rw [← q1] at q2
    have q3 : (⟨(Lib.join ((rkN l r).map (·.data.toList)) [62]).toArray⟩ : ByteArray).size = (Lib.join ((rkN l r).map (·.data.toList)) [62]).length := rfl
    rw [q3, rkN_len] at q2
    have := rk_len h2
    show (Lib.join ((rkN l r).map (·.data.toList)) [62]).length ≤ _
    omega
  have HLN : Hid (rkB r l.length = true → 1 ≤ r.length ∧ r.length ≤ 5) := fun h => by have := rk_len h; omega
  have HRL : Hid ((rkN l r).length = r.length) := rkN_len l r
  clear hv hvr
  generalize fmtRk l r = z at *
  generalize rkN l r = R at *
  generalize hra : areC l = ra at *
  generalize hrb : rkB r (l.length : Int) = rb at *
  clear hra hrb
  obtain ⟨i0, hi, hz0, hz1, hz2⟩ := info_parts infoStr12
  go_enter Try.func23, Try.ntmps23
  go_wp2_with fail
  refine HA.out.mono ?_
  rintro e w1 ⟨rfl, hb1⟩
  have HB1 := Lib.hid hb1
  clear hb1 HA
  cases ra
  case false =>
    have HZ := Lib.hid (HN.out rfl)
    go_wp2
    go_ret
    exact ⟨ret_str HZ.out.symm, HB1.out⟩
  go_wp2_with fail
  refine (HRK.out _ HB1.out).mono ?_
  rintro e w2 ⟨rfl, rfl⟩
  clear HRK
  obtain ⟨w2, rfl⟩ : ∃ w2 : World, w2 = w1 := ⟨_, rfl⟩
  cases rb
  case false =>
    have HZ := Lib.hid (HN.out rfl)
    go_wp2
    go_ret
    exact ⟨ret_str HZ.out.symm, HB1.out⟩
  have HZ := Lib.hid (HY.out (by trivial) (by trivial))
  have HP2 := Lib.hid (HPL.out (by trivial) (by trivial))
  have HS2 := Lib.hid (HSZ.out (by trivial) (by trivial))
  obtain ⟨hr1, hr5⟩ := HLN.out (by trivial)
  have HRL2 := HRL.out
  have H0 := Lib.hid (cpTo_zero ByteArray.empty R)
  have HAL := Lib.hid (cpTo_all ByteArray.empty R)
  have HAT := Lib.hid (cpTo_at ByteArray.empty R)
  have HST : Hid (∀ k x, R[k]? = some x → (cpTo ByteArray.empty R k).set k x = cpTo ByteArray.empty R (k + 1)) := fun k x h => cpTo_step _ _ _ h
  rw [HRL2] at H0 HAL HAT
  clear HN HY HPL HSZ HLN HRL
  generalize hln : r.length = n at *
  generalize hll : l.length = N at *
  go_wp2_with (at_make; refine wpList_make_full _ rfl _ _ 33 rfl w2.heap.size 9 i0 (.string ⟨#[]⟩) 1 Try.underlying33 hi hz0 hz1 .i64 .i64 _ _ n rfl rfl rfl rfl (by rw [hz2]; omega) (by unfold maxLen; omega) (Nat.le_refl _) ?_; intro w3 hown3 hgrow3)
  have hb3 : Below w2.heap.size w2 w3 := (Below.refl _ _).grown hgrow3 (Nat.le_refl _) (fun _ h => by cases h)
  have HO1 : Hid (RowRd (Rep.str m) true w3 (.slice (some ⟨w2.heap.size, 0, none⟩) n n) (cpTo ByteArray.empty R 0) (fun a => w2.heap.size ≤ a.block)) := by
    unfold Hid
    rw [H0.out]
    rw [show (Value.cells (.string ⟨#[]⟩)) = #[.string ⟨#[]⟩] from rfl] at hown3
    have hlr : (List.replicate n (ByteArray.empty : ByteArray)).length = n := List.length_replicate
    refine (RowRd.of_flat (E := (Rep.str m)) (l := List.replicate n ByteArray.empty) (base := w2.heap.size) (e := 9) (cells := (madeCells #[.string ⟨#[]⟩] (n * 1)).toList) (by rw [hlr]; exact hown3) (by rw [hlr]; omega) ?_).mono (fun a ha => ha.1)
    intro k x hk
    rw [List.getElem?_replicate] at hk
    split at hk
    · cases hk
      refine ⟨[.string ⟨#[]⟩], ?_, ⟨rfl, by decide⟩⟩
      intro j u hj
      have hjn : j < 1 := (List.getElem?_eq_some_iff.1 hj).1
      rw [show (Rep.str m).size = 1 from rfl, made_at _ _ _ (by omega) (by decide), show (#[.string ⟨#[]⟩] : Array Value).size = 1 from rfl, show (k * 1 + j) % 1 = j by omega]
      simpa using hj
    · cases hk
  have HB3 := Lib.hid hb3
  clear hown3 hgrow3 hb3
  go_wp2
  go_loopw [23] (fun i wr => ∃ (k : Nat), k ≤ n ∧ i = .int .i64 k ∧ RowRd (Rep.str m) true wr (.slice (some ⟨w2.heap.size, 0, none⟩) n n) (cpTo ByteArray.empty R k) (fun a => w2.heap.size ≤ a.block) ∧ Below w2.heap.size w2 wr) (fun i _ => n - (intOf i).toNat)
  case atStart => exact ⟨0, by omega, rfl, HO1.out, HB3.out⟩
  case round =>
    obtain ⟨k, hk, rfl, hrow, hbe⟩ := hrel
    obtain ⟨w4, rfl⟩ : ∃ w4 : World, w4 = wr := ⟨_, rfl⟩
    have HBE := Lib.hid hbe
    clear hbe
    by_cases hkl : k < n
    · obtain ⟨j, x, hj, hjl, hx, hR, hx7⟩ := HP2.out k hkl
      have HSX := Lib.hid (HST.out k x hR)
      have hkr : (k : Int) < (n : Int) := by omega
      have hj1 : (j : Int) < (N : Int) := by omega
      obtain ⟨g1, o1, xs1, F1, rfl, _, ha1, _, hc1⟩ := ((HV.out.kept HB1.out).kept HBE.out).get hx
      obtain ⟨g3, o3, xs3, F3, rfl, _, ha3, _, hc3⟩ := ((HR.out.kept HB1.out).kept HBE.out).get hj
      obtain ⟨rfl, hxi⟩ := id ha1
      obtain ⟨rfl, hji⟩ := id ha3
      have c1 := hc1 0 _ rfl
      have c3 := hc3 0 _ rfl
      simp only [show Rep.int.size = 1 from rfl, show (Rep.str m).size = 1 from rfl, Nat.mul_one, Nat.add_zero] at c1 c3
      clear hc1 hc3 ha1 ha3 hx hj hR
      have hrow2 := hrow.tight
      clear hrow
      obtain ⟨g, off, ys, Fk, hge, hrd, hel, hFk, hcl, hput⟩ := hrow2.open (HAT.out k hkl)
      cases hge
      simp only [show (Rep.str m).size = 1 from rfl, Nat.mul_one] at hel hcl hput
      simp only [Nat.zero_add] at hel hput
      obtain ⟨rfl, _⟩ := id hrd
      have d0 := hel.cell 0 rfl
      have f0 := hel.free 0 (by decide)
      simp only [Nat.zero_add, Nat.add_zero] at d0 f0
      have hs0 := hel.set 0 (by decide) (.string x)
      simp only [List.set, Nat.zero_add, Nat.add_zero] at hs0
      have HBB := Lib.hid (HBE.out.setCell (p := ⟨w2.heap.size, k, none⟩) (Nat.le_refl _) (.string x))
      have HNEW := Lib.hid ((hput _ _ x (fun _ => False) hs0 (⟨rfl, hxi⟩) (fun a h => h.elim)).mono (fun a h => h.elim (fun h => h.1) (fun h => h.elim)))
      rw [HSX.out] at HNEW
      clear hput hel hs0 hrd hFk hcl
      try clear hrow2
      go_wp2
      go_roundw
      case rel => exact ⟨k + 1, by omega, by go_num, HNEW.out, HBB.out⟩
      case measure => simp [intOf]; omega
    · obtain rfl : k = n := by omega
      rw [HAL.out] at hrow
      have HCL : Hid (∀ (j : Nat) x, R[j]? = some x → w4.cell? ⟨w2.heap.size, 0 + j, none⟩ = some (.string x)) := by
        intro j x hj
        obtain ⟨g2, off2, xs2, Fk2, he2, _, hra2, _, hca2⟩ := hrow.get hj
        cases he2
        obtain ⟨rfl, _⟩ := hra2
        have c1 := hca2 0 _ rfl
        simpa [show (Rep.str m).size = 1 from rfl] using c1
      have HG : Hid (w2.heap.size < w4.heap.size) := by
        have h0 := List.getElem?_eq_getElem (l := R) (i := 0) (by omega)
        exact block_lt_of_cell (HCL.out 0 _ h0)
      have HBF := Lib.hid (HB1.out.trans (HBE.out.mono HB1.out.size))
      clear hrow
      have hjn := Try.strings_Join w2.heap.size 0 R.length R ⟨#[62]⟩ w4 HCL.out HG.out (by omega) (Nat.le_refl _) HS2.out
      rw [HRL2] at hjn
      have HJN := Lib.hid hjn
      clear hjn
      go_wp2_with fail
      refine HJN.out.mono ?_
      rintro e w5 ⟨rfl, hb5⟩
      have HB5 := Lib.hid (HBF.out.trans (hb5.mono HBF.out.size))
      clear hb5
      go_wp2
      go_ret
      exact ⟨ret_str (by rw [HZ.out]), HB5.out⟩
end Go.Proofs.Ytnildbalaedlgaa
