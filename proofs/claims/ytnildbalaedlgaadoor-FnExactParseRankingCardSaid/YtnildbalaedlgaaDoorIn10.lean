/- Names of constraints: the program's ConstraintNames, slices.Contains, IsMarkedness, AreConstraints: what they answer. -/
import Derived.Test.YtnildbalaedlgaaDoorMs10
import Derived.Test.YtnildbalaedlgaaDoorCc12
namespace Go.Proofs.YtnildbalaedlgaaDoor
set_option maxRecDepth 100000
open Go.RowKit Go.Sort M
set_option linter.unusedVariables false
set_option linter.unusedSimpArgs false

def idxB (l : List ByteArray) (x : ByteArray) : Int := if hasB l x then (l.findIdx fun y => decide (y = x) : Nat) else -1
theorem idxB_no {l : List ByteArray} {x : ByteArray} (h : ∀ (j : Nat) (y : ByteArray), l[j]? = some y → ¬ y = x) : idxB l x = -1 := by
  unfold idxB; rw [hasB_no h]; rfl
theorem idxB_yes {l : List ByteArray} {k : Nat} {x : ByteArray} (h : l[k]? = some x) (hf : ∀ (j : Nat) (y : ByteArray), j < k → l[j]? = some y → ¬ y = x) : idxB l x = k := by
  obtain ⟨hl, he⟩ := List.getElem?_eq_some_iff.1 h
  have h1 : (l.findIdx fun y => decide (y = x)) = k := by
    rw [List.findIdx_eq hl]
    exact ⟨by simp [he], fun j hj => by simpa using hf j _ hj (List.getElem?_eq_getElem (by omega))⟩
  unfold idxB; rw [if_pos (hasB_yes h), h1]
theorem hasB_idx (l : List ByteArray) (x : ByteArray) : hasB l x = decide (0 ≤ idxB l x) := by
  unfold idxB
  cases hasB l x
  · rfl
  · simp
theorem idxB_rng (l : List ByteArray) (x : ByteArray) : -1 ≤ idxB l x := by
  unfold idxB; split <;> omega
theorem areC_short {l : List ByteArray} (h : ¬ (1 ≤ l.length ∧ l.length ≤ 5)) : areC l = false := by
  cases hc : areC l with
  | false => rfl
  | true => exact (h (areC_len hc)).elim
theorem implNames_any (w : World) : Calls Tryd.prog 30 #[] w (NmPost w) := by
  go_enter Tryd.func30, Tryd.ntmps30
  go_wp2
  go_ret
  exact ⟨_, _, rfl, Nat.le_refl _, by omega, Nat.le_refl _, str_new w namesB 10 _ rfl rfl (by omega), (Below.refl _ _).alloc (Nat.le_refl _) _⟩
set_option maxHeartbeats 1000000 in
theorem indexS_any (m : Nat → ByteArray) (l : List ByteArray) (v : Value) (F : Addr → Prop) (x : ByteArray) (w : World) (hl : l.length ≤ 1000000000) (hv : RowRd (Rep.str m) false w v l F) :
    Calls Tryd.prog 22 #[v, .string x] w fun e w' => e = .returned (.int .i64 (idxB l x)) ∧ w = w' := by
  obtain ⟨A, cap, rfl⟩ := hv.form
  have HV := Lib.hid hv
  clear hv
  have HX : Hid (∀ k, k < l.length → ∃ y, l[k]? = some y) := fun k hk => ⟨_, List.getElem?_eq_getElem hk⟩
  go_enter Tryd.func22, Tryd.ntmps22
  go_wp2
  go_loop [8] (fun i => ∃ (k : Nat), k ≤ l.length ∧ i = .int .i64 k ∧ Hid (∀ (j : Nat) (y : ByteArray), j < k → l[j]? = some y → ¬ y = x)) (fun i => l.length - (intOf i).toNat)
  case atStart => exact ⟨0, by omega, rfl, fun j y hj => by omega⟩
  case round =>
    obtain ⟨k, hk, rfl, hall⟩ := hrel
    by_cases hkl : k < l.length
    · obtain ⟨y, hy⟩ := HX.out k hkl
      obtain ⟨g, off, xs, Fk, rfl, _, hra, _, hca⟩ := HV.out.get hy
      obtain ⟨rfl, _⟩ := hra
      rw [show (Rep.str m).size = 1 from rfl] at hca
      have c0 := hca 0 _ rfl
      simp only [Nat.add_zero, Nat.mul_one] at c0
      clear hca
      have HY := Lib.hid hy
      clear hy
      go_wp2
      · have hq : (x.toList == y.toList) = true := by assumption
        have he : y = x := by
          rw [beq_iff_eq] at hq
          exact (toList_inj10 hq).symm
        have HN : Hid (idxB l x = k) := idxB_yes (he ▸ HY.out) hall.out
        go_ret
        exact ⟨by rw [HN.out]; rfl, rfl⟩
      · rename_i hq
        have he : ¬ y = x := fun e => by rw [e] at hq; simp at hq
        go_round
        case rel =>
          refine ⟨k + 1, by omega, by go_num, fun j z hj hz => ?_⟩
          by_cases e : j = k
          · subst e; rw [HY.out] at hz; cases hz; exact he
          · exact hall.out j z (by omega) hz
        case measure => simp [intOf]; omega
    · obtain rfl : k = l.length := by omega
      have HN : Hid (idxB l x = -1) := idxB_no fun j y hj => hall.out j y (List.getElem?_eq_some_iff.1 hj).1 hj
      clear hall
      go_wp2
      go_ret
      exact ⟨by rw [HN.out]; rfl, rfl⟩
theorem contains_any (m : Nat → ByteArray) (l : List ByteArray) (v : Value) (F : Addr → Prop) (x : ByteArray) (w : World) (hl : l.length ≤ 1000000000) (hv : RowRd (Rep.str m) false w v l F) :
    Calls Tryd.prog 31 #[v, .string x] w fun e w' => e = .returned (.bool (hasB l x)) ∧ w = w' := by
  have HC := Lib.hid (indexS_any m l v F x w hl hv)
  clear hv
  rw [hasB_idx]
  generalize idxB l x = i at *
  go_enter Tryd.func31, Tryd.ntmps31
  go_wp2_with fail
  refine HC.out.mono ?_
  rintro e w1 ⟨rfl, rfl⟩
  go_wp2
  go_ret
  exact ⟨rfl, rfl⟩
theorem specHead (m : Nat → ByteArray) (l : List ByteArray) (g off cap : Nat) (F : Addr → Prop) (y : ByteArray) (w : World) (k : Nat) (hk : k ≤ l.length) (hl : l.length ≤ 1000000000) (hv : RowRd (Rep.str m) false w (.slice (some ⟨g, off, none⟩) l.length cap) l F) :
    Calls Tryd.prog 31 #[.slice (some ⟨g, off, none⟩) k cap, .string y] w fun e w' => e = .returned (.bool (hasB (l.take k) y)) ∧ w = w' :=
  contains_any m (l.take k) (.slice (some ⟨g, off, none⟩) k cap) F y w (by rw [List.length_take]; omega) (hv.head k cap hk (by have := hv.cap_le; omega))
set_option maxHeartbeats 2000000 in
theorem implAre_any (m : Nat → ByteArray) (l : List ByteArray) (A : Option Addr) (cap : Nat) (F : Addr → Prop) (w : World) (hl : l.length ≤ 1000000000) (hcap : l.length ≤ cap) (hv : RowRd (Rep.str m) false w (.slice A l.length cap) l F) :
    Calls Tryd.prog 20 #[.slice A l.length cap] w fun e w' => e = .returned (.bool (areC l)) ∧ Below w.heap.size w w' := by
  have HV := Lib.hid hv
  clear hv
  have HX : Hid (∀ k, k < l.length → ∃ y, l[k]? = some y) := fun k hk => ⟨_, List.getElem?_eq_getElem hk⟩
  by_cases h1 : (l.length : Int) < 1
  · have HF : Hid (areC l = false) := areC_short (by omega)
    have HI : Hid (Calls Tryd.prog 29 #[.int .i64 (l.length : Int)] w fun e w' => e = .returned (.bool false) ∧ w = w') := by
      have h := cnt12_any (l.length : Int) w
      rw [cnt12_no (by omega)] at h
      exact h
    go_enter Tryd.func20, Tryd.ntmps20
    go_wp2_with fail
    refine HI.out.mono ?_
    rintro e wi ⟨rfl, rfl⟩
    go_wp2
    go_ret
    exact ⟨by rw [HF.out]; rfl, Below.refl _ _⟩
  by_cases h5 : (5 : Int) < (l.length : Int)
  · have HF : Hid (areC l = false) := areC_short (by omega)
    have HI : Hid (Calls Tryd.prog 29 #[.int .i64 (l.length : Int)] w fun e w' => e = .returned (.bool false) ∧ w = w') := by
      have h := cnt12_any (l.length : Int) w
      rw [cnt12_no (by omega)] at h
      exact h
    go_enter Tryd.func20, Tryd.ntmps20
    go_wp2_with fail
    refine HI.out.mono ?_
    rintro e wi ⟨rfl, rfl⟩
    go_wp2
    go_ret
    exact ⟨by rw [HF.out]; rfl, Below.refl _ _⟩
  have HI : Hid (Calls Tryd.prog 29 #[.int .i64 (l.length : Int)] w fun e w' => e = .returned (.bool true) ∧ w = w') := by
    have h := cnt12_any (l.length : Int) w
    rw [cnt12_yes (by omega) (by omega)] at h
    exact h
  go_enter Tryd.func20, Tryd.ntmps20
  go_wp2_with fail
  refine HI.out.mono ?_
  rintro e wi ⟨rfl, rfl⟩
  go_wp2_with fail
  refine (implNames_any _).mono ?_
  rintro e w2 ⟨g0, cap0, rfl, hc1, hc2, hg0, hown, hb⟩
  have HK := Lib.hid ((RowRd.of_strs m hown (by decide) names_short).weak)
  have HV2 := Lib.hid (HV.out.kept hb)
  have HB := Lib.hid hb
  clear hb hown HV
  go_wp2_with fail
  go_loop [13] (fun i => ∃ (k : Nat), k ≤ l.length ∧ i = .int .i64 k ∧ Hid (∀ (j : Nat) (y : ByteArray), j < k → l[j]? = some y → hasB namesB y = true ∧ hasB (l.take j) y = false)) (fun i => l.length - (intOf i).toNat)
  case atStart => exact ⟨0, by omega, rfl, fun j y hj => by omega⟩
  case round =>
    obtain ⟨k, hk, rfl, hall⟩ := hrel
    by_cases hkl : k < l.length
    · obtain ⟨y, hy⟩ := HX.out k hkl
      obtain ⟨g, off, xs, Fk, rfl, _, hra, _, hca⟩ := HV2.out.get hy
      obtain ⟨rfl, _⟩ := hra
      rw [show (Rep.str m).size = 1 from rfl] at hca
      have c0 := hca 0 _ rfl
      simp only [Nat.add_zero, Nat.mul_one] at c0
      clear hca
      have HY := Lib.hid hy
      clear hy
      have hkc : (k : Int) ≤ (cap : Int) := by omega
      have HH2 := Lib.hid (specHead m l g off cap F y w2 k (by omega) hl HV2.out)
      have HN : Hid (∀ b c, hasB namesB y = b → hasB (l.take k) y = c → (b = false ∨ c = true) → areC l = false) := fun b c h1 h2 h => areC_bad HY.out (h.elim (fun h => .inl (h1.trans h)) (fun h => .inr (h2.trans h)))
      have HG : Hid (∀ b c, hasB namesB y = b → hasB (l.take k) y = c → b = true → c = false → ∀ (j : Nat) (z : ByteArray), j < k + 1 → l[j]? = some z → hasB namesB z = true ∧ hasB (l.take j) z = false) := fun b c h1 h2 hb hc j z hj hz => by
        by_cases e : j = k
        · subst e; rw [HY.out] at hz; cases hz; exact ⟨h1.trans hb, h2.trans hc⟩
        · exact hall.out j z (by omega) hz
      have HH1 := Lib.hid (contains_any m namesB _ _ y w2 (by decide) HK.out)
      generalize hB : hasB namesB y = bn at *
      generalize hC : hasB (l.take k) y = bt at *
      have HN2 := Lib.hid (HN.out _ _ rfl rfl)
      have HG2 := Lib.hid (HG.out _ _ rfl rfl)
      clear HN HG hall hB hC
      go_wp2_with fail
      refine HH1.out.mono ?_
      rintro e w3 ⟨rfl, rfl⟩
      cases bn
      · have HF := Lib.hid (HN2.out (.inl (by first | rfl | trivial)))
        go_wp2
        go_ret
        exact ⟨by rw [HF.out]; rfl, HB.out⟩
      · go_wp2_with fail
        refine HH2.out.mono ?_
        rintro e w3 ⟨rfl, rfl⟩
        cases bt
        · have HNX := Lib.hid (HG2.out (by first | rfl | trivial) (by first | rfl | trivial))
          go_wp2
          go_round
          case rel => exact ⟨k + 1, by omega, by go_num, HNX.out⟩
          case measure => simp [intOf]; omega
        · have HF := Lib.hid (HN2.out (.inr (by first | rfl | trivial)))
          go_wp2
          go_ret
          exact ⟨by rw [HF.out]; rfl, HB.out⟩
    · obtain rfl : k = l.length := by omega
      have HN : Hid (areC l = true) := by
        unfold Hid
        rw [areC_good fun j y hj => hall.out j y (List.getElem?_eq_some_iff.1 hj).1 hj]
        simp; omega
      clear hall
      go_wp2
      go_ret
      exact ⟨by rw [HN.out]; rfl, HB.out⟩
end Go.Proofs.YtnildbalaedlgaaDoor
