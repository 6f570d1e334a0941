/- The model's CountBreaks: what it answers. -/
import Derived.Test.YtfcmhbbeohhjmaaM9
import Derived.Test.YtfcmhbbeohhjmaaMc2
import Derived.Test.YtfcmhbbeohhjmaaAp9
import Derived.BigRegion
import Derived.BigQuiet
namespace Go.Proofs.Ytfcmhbbeohhjmaa
set_option maxRecDepth 100000
open Go.RowKit M
set_option linter.unusedVariables false
set_option linter.unusedSimpArgs false
set_option maxRecDepth 100000

/-- The places of the first and the last kept link so far. -/
def P9 (l : List DLink) (k : Nat) (f e : Int) : Prop :=
  (f = -1 ∧ e = -1 ∧ ∀ (j : Nat) (y : DLink), j < k → l[j]? = some y → kepK y = false) ∨
  ∃ (a b : Nat) (x y : DLink), f = a ∧ e = b ∧ a ≤ b ∧ b < k ∧ l[a]? = some x ∧ kepK x = true ∧ (∀ (j : Nat) (z : DLink), j < a → l[j]? = some z → kepK z = false) ∧ l[b]? = some y ∧ kepK y = true ∧ (∀ (j : Nat) (z : DLink), b < j → j < k → l[j]? = some z → kepK z = false)
theorem P9.zero (l : List DLink) : P9 l 0 (-1) (-1) := .inl ⟨rfl, rfl, fun j y hj => by omega⟩
theorem P9.no {l : List DLink} {k : Nat} {f e : Int} {y : DLink} (h : P9 l k f e) (hy : l[k]? = some y) (hk : kepK y = false) : P9 l (k + 1) f e := by
  rcases h with ⟨h1, h2, h3⟩ | ⟨a, b, x, z, h1, h2, h3, h4, h5, h6, h7, h8, h9, h10⟩
  · refine .inl ⟨h1, h2, fun j z hj hz => ?_⟩
    by_cases hjk : j = k
    · subst hjk; rw [hy] at hz; cases hz; exact hk
    · exact h3 j z (by omega) hz
  · refine .inr ⟨a, b, x, z, h1, h2, h3, by omega, h5, h6, h7, h8, h9, fun j z' hj hj2 hz => ?_⟩
    by_cases hjk : j = k
    · subst hjk; rw [hy] at hz; cases hz; exact hk
    · exact h10 j z' hj (by omega) hz
theorem P9.first {l : List DLink} {k : Nat} {f e : Int} {y : DLink} (h : P9 l k f e) (hf : f < 0) (hy : l[k]? = some y) (hk : kepK y = true) : P9 l (k + 1) k k := by
  rcases h with ⟨h1, h2, h3⟩ | ⟨a, b, x, z, h1, h2, h3, h4, h5, h6, h7, h8, h9, h10⟩
  · exact .inr ⟨k, k, y, y, rfl, rfl, Nat.le_refl _, Nat.lt_succ_self _, hy, hk, h3, hy, hk, fun j z hj hj2 => by omega⟩
  · omega
theorem P9.more {l : List DLink} {k : Nat} {f e : Int} {y : DLink} (h : P9 l k f e) (hf : ¬ f < 0) (hy : l[k]? = some y) (hk : kepK y = true) : P9 l (k + 1) f k := by
  rcases h with ⟨h1, h2, h3⟩ | ⟨a, b, x, z, h1, h2, h3, h4, h5, h6, h7, h8, h9, h10⟩
  · omega
  · exact .inr ⟨a, k, x, y, h1, rfl, by omega, Nat.lt_succ_self _, h5, h6, h7, hy, hk, fun j z hj hj2 => by omega⟩
/-- What the second loop counts. -/
theorem P9.done {l : List DLink} {f e : Int} (h : P9 l l.length f e) : (f = -1 ∧ e = -1 ∧ brkL l = 0) ∨ ∃ a b : Nat, f = a ∧ e = b ∧ a ≤ b ∧ b < l.length ∧ brkL l = spanN l a b := by
  rcases h with ⟨h1, h2, h3⟩ | ⟨a, b, x, z, h1, h2, h3, h4, h5, h6, h7, h8, h9, h10⟩
  · exact .inl ⟨h1, h2, brk_none fun j y hy => h3 j y (List.getElem?_eq_some_iff.1 hy).1 hy⟩
  · exact .inr ⟨a, b, h1, h2, h3, h4, brk_is h5 h6 h7 h8 h9 (fun j z hj hz => h10 j z hj (List.getElem?_eq_some_iff.1 hz).1 hz) h3⟩
theorem P9.rng {l : List DLink} {k : Nat} {f e : Int} (h : P9 l k f e) : -1 ≤ f ∧ f ≤ k ∧ -1 ≤ e ∧ e ≤ k := by
  rcases h with ⟨h1, h2, _⟩ | ⟨a, b, x, z, h1, h2, h3, h4, _⟩ <;> omega
theorem keptM_any (a b : Int) (w : World) :
    Calls Try.prog 35 #[.agg #[.int .u8 a, .int .u8 b]] w fun e w' => e = .returned (.bool (!decide (b = 0) && !decide (a = 0))) ∧ Below w.heap.size w w' := by
  go_enter Try.func35, Try.ntmps35
  by_cases ha : a = 0
  · have qa : (a == 0) = true := by simp [ha]
    go_wp2
    go_ret
    exact ⟨ret_bool (by simp [ha]), by first | exact (Below.refl _ _).alloc (Nat.le_refl _) _ | exact drewN_below ((Below.refl _ _).alloc (Nat.le_refl _) _)⟩
  · have qa : (a == 0) = false := by simp [ha]
    by_cases hb : b = 0
    · have qb : (b == 0) = true := by simp [hb]
      go_wp2
      go_ret
      exact ⟨ret_bool (by simp [ha, hb]), by first | exact (Below.refl _ _).alloc (Nat.le_refl _) _ | exact drewN_below ((Below.refl _ _).alloc (Nat.le_refl _) _)⟩
    · have qb : (b == 0) = false := by simp [hb]
      go_wp2
      go_ret
      exact ⟨ret_bool (by simp [ha, hb]), by first | exact (Below.refl _ _).alloc (Nat.le_refl _) _ | exact drewN_below ((Below.refl _ _).alloc (Nat.le_refl _) _)⟩
set_option maxHeartbeats 8000000 in
theorem specBreaks_any (x : DCandidate) (v : Value) (F : Addr → Prop) (w : World) (hl : x.Links.length ≤ 1048576) (hv : RowRd rLink false w v x.Links F) :
    Calls Try.prog 18 #[.agg #[v]] w fun e w' => e = .returned (.int .i64 (brkC x.Links : Nat)) ∧ Below w.heap.size w w' := by
  obtain ⟨A, cap, rfl⟩ := hv.form
  have HIS : Hid (∀ W, Below w.heap.size w W → Calls Try.prog 27 #[.agg #[.slice A x.Links.length cap]] W fun e w' => e = .returned (.bool (isCd x.Links)) ∧ Below W.heap.size W w') := fun W hW => specIsCd_any x _ F W hl (hv.kept hW)
  have HKM : Hid (∀ a b W, Calls Try.prog 35 #[.agg #[.int .u8 a, .int .u8 b]] W fun e w' => e = .returned (.bool (!decide (b = 0) && !decide (a = 0))) ∧ Below W.heap.size W w') := keptM_any
  have HV := Lib.hid hv
  clear hv
  have HX : Hid (∀ k, k < x.Links.length → ∃ y, x.Links[k]? = some y) := fun k hk => ⟨_, List.getElem?_eq_getElem hk⟩
  have HC : Hid (brkC x.Links = if isCd x.Links then brkL x.Links else 0) := rfl
  generalize x.Links = l at *
  generalize isCd l = cd at *
  generalize brkC l = r at *
  go_enter Try.func18, Try.ntmps18
  go_wp2
  go_loopw [3, 4, 5] (fun f e i wr => ∃ (k : Nat) (fi ei : Int), k ≤ l.length ∧ i = .int .i64 k ∧ f = .int .i64 fi ∧ e = .int .i64 ei ∧ Hid (P9 l k fi ei) ∧ Hid (cd = false → k = 0) ∧ Below w.heap.size w wr ∧ InC wr w.heap.size #[.slice A l.length cap] 29) (fun _ _ i _ => l.length - (intOf i).toNat)
  case atStart => exact ⟨0, -1, -1, by omega, rfl, rfl, rfl, P9.zero l, fun _ => rfl, (Below.refl _ _).alloc (Nat.le_refl _) _, heap_alloc_new _ _⟩
  case round =>
    obtain ⟨k, fi, ei, hk, rfl, rfl, rfl, hp, hcd, hbe, hi1⟩ := hrel
    have b1 := hi1.cell 0 rfl
    have HBE := Lib.hid hbe
    have HI1 := Lib.hid hi1
    clear hbe hi1
    have hrg := hp.out.rng
    by_cases hgo : k < l.length ∧ cd = true
    · obtain ⟨hkl, rfl⟩ := hgo
      obtain ⟨y, hy⟩ := HX.out k hkl
      go_wp2_with fail
      refine (HIS.out _ HBE.out).mono ?_
      rintro e w2 ⟨rfl, hb2⟩
      have HBE2 : Hid (Below w.heap.size w w2) := below_step HBE.out hb2
      have HI2 := Lib.hid (HI1.out.kept hb2)
      have b2 := HI2.out.cell 0 rfl
      clear hb2 b1
      obtain ⟨g, off, xs, Fk, rfl, _, hra, _, hca⟩ := (HV.out.kept HBE2.out).get hy
      obtain rfl := rLink_rd hra
      rw [rLink_size] at hca
      have c0 := hca 0 _ rfl
      have c1 := hca 1 _ rfl
      simp only [Nat.add_zero] at c0
      have HK1 : Hid ((!decide ((y.Out.toNat : Int) = 0) && !decide ((y.In.toNat : Int) = 0)) = false → P9 l (k + 1) fi ei) := fun h => hp.out.no hy h
      have HK2 : Hid ((!decide ((y.Out.toNat : Int) = 0) && !decide ((y.In.toNat : Int) = 0)) = true → fi < 0 → P9 l (k + 1) k k) := fun h hf => hp.out.first hf hy h
      have HK3 : Hid ((!decide ((y.Out.toNat : Int) = 0) && !decide ((y.In.toNat : Int) = 0)) = true → ¬ fi < 0 → P9 l (k + 1) fi k) := fun h hf => hp.out.more hf hy h
      have HKC := Lib.hid (HKM.out (y.In.toNat : Int) (y.Out.toNat : Int))
      clear hca hra hy
      generalize (!decide ((y.Out.toNat : Int) = 0) && !decide ((y.In.toNat : Int) = 0)) = kp at *
      generalize (y.In.toNat : Int) = a at *
      generalize (y.Out.toNat : Int) = b at *
      go_wp2_with fail
      refine (HKC.out _).mono ?_
      rintro e w3 ⟨rfl, hb3⟩
      have HBE3 : Hid (Below w.heap.size w w3) := below_step HBE2.out hb3
      have HI3 := Lib.hid (HI2.out.kept hb3)
      have b3 := HI3.out.cell 0 rfl
      clear hb3 b2
      cases kp
      · have HE := Lib.hid (HK1.out rfl)
        go_wp2
        go_roundw
        case rel => exact ⟨k + 1, fi, ei, by omega, by go_num, rfl, rfl, HE, fun h => (by cases h), HBE3.out, HI3.out⟩
        case measure => simp [intOf]; omega
      · by_cases hf : fi < 0
        · have HE := Lib.hid (HK2.out rfl hf)
          go_wp2
          go_roundw
          case rel => exact ⟨k + 1, k, k, by omega, by go_num, rfl, rfl, HE, fun h => (by cases h), HBE3.out, HI3.out⟩
          case measure => simp [intOf]; omega
        · have HE := Lib.hid (HK3.out rfl (by omega))
          go_wp2
          go_roundw
          case rel => exact ⟨k + 1, fi, k, by omega, by go_num, rfl, rfl, HE, fun h => (by cases h), HBE3.out, HI3.out⟩
          case measure => simp [intOf]; omega
    · -- the loop's end: by the length, or since the candidate is not valid
      have HD : Hid ((fi = -1 ∧ ei = -1 ∧ r = 0) ∨ ∃ a b : Nat, fi = a ∧ ei = b ∧ a ≤ b ∧ b < l.length ∧ r = spanN l a b) := by
        unfold Hid
        rw [HC.out]
        cases cd
        · have hk0 := hcd.out rfl
          subst hk0
          rcases hp.out with ⟨h1, h2, _⟩ | ⟨a, b, x, z, h1, h2, h3, h4, _⟩
          · exact .inl ⟨h1, h2, rfl⟩
          · omega
        · have hkl : k = l.length := by
            rcases Nat.lt_or_ge k l.length with h | h
            · exact absurd ⟨h, rfl⟩ hgo
            · omega
          subst hkl
          exact hp.out.done
      have HFIN : Hid (∀ wr', Below w.heap.size w wr' → InC wr' w.heap.size #[.slice A l.length cap] 29 → True) := fun _ _ _ => trivial
      clear HFIN
      obtain ⟨m, hm⟩ : ∃ m : Nat, (max 0 fi) = (m : Int) := ⟨(max 0 fi).toNat, by omega⟩
      by_cases hkl : k < l.length
      · have hcf : cd = false := by cases cd; rfl; exact absurd ⟨hkl, rfl⟩ hgo
        subst hcf
        have hk0 := hcd.out rfl
        subst hk0
        obtain ⟨rfl, rfl, hr0⟩ : fi = -1 ∧ ei = -1 ∧ r = 0 := by
          rcases hp.out with ⟨h1, h2, _⟩ | ⟨a, b, x, z, h1, h2, h3, h4, _⟩
          · exact ⟨h1, h2, HC.out⟩
          · omega
        subst hr0
        go_wp2_with fail
        refine (HIS.out _ HBE.out).mono ?_
        rintro e w2 ⟨rfl, hb2⟩
        have HBE2 : Hid (Below w.heap.size w w2) := below_step HBE.out hb2
        clear hb2
        go_wp2
        go_loopw [6, 7] (fun n i wr => n = .int .i64 0 ∧ i = .int .i64 0 ∧ Below w.heap.size w wr) (fun _ _ _ => 0)
        case atStart => exact ⟨rfl, rfl, HBE2.out⟩
        case round =>
          obtain ⟨rfl, rfl, hb3⟩ := hrel
          have HB3 := Lib.hid hb3
          clear hb3
          go_wp2
          go_ret
          exact ⟨rfl, HB3.out⟩
      · have hkl' : k = l.length := by omega
        subst hkl'
        clear hm m
        rcases HD.out with ⟨rfl, rfl, hr0⟩ | ⟨a, b, rfl, rfl, hab, hbl, hr⟩
        · subst hr0
          go_wp2
          go_loopw [6, 7] (fun n i wr => n = .int .i64 0 ∧ i = .int .i64 0 ∧ Below w.heap.size w wr) (fun _ _ _ => 0)
          case atStart => exact ⟨rfl, rfl, HBE.out⟩
          case round =>
            obtain ⟨rfl, rfl, hb3⟩ := hrel
            have HB3 := Lib.hid hb3
            clear hb3
            go_wp2
            go_ret
            exact ⟨rfl, HB3.out⟩
        · have HR := Lib.hid hr
          clear hr HD
          have hmx : max (0 : Int) (a : Int) = (a : Int) := by omega
          go_wp2
          all_goals
            go_loopw [6, 7] (fun n i wr => ∃ q : Nat, a ≤ q ∧ q ≤ b ∧ i = .int .i64 q ∧ n = .int .i64 (spanN l a q : Nat) ∧ Below w.heap.size w wr ∧ InC wr w.heap.size #[.slice A l.length cap] 29) (fun _ i _ => b - (intOf i).toNat)
            case atStart => exact ⟨a, Nat.le_refl _, hab, by first | rfl | (have h0 : a = 0 := by omega); rw [h0]; rfl, by rw [span_zero]; rfl, HBE.out, HI1.out⟩
            case round =>
              obtain ⟨q, hq1, hq2, rfl, rfl, hb3, hi3⟩ := hrel
              have b3 := hi3.cell 0 rfl
              have HB3 := Lib.hid hb3
              have HI3 := Lib.hid hi3
              clear hb3 hi3
              have hsl := span_le l a q
              by_cases hqb : q < b
              · obtain ⟨y, hy⟩ := HX.out q (by omega)
                obtain ⟨g, off, xs, Fk, rfl, _, hra, _, hca⟩ := (HV.out.kept HB3.out).get hy
                obtain rfl := rLink_rd hra
                rw [rLink_size] at hca
                have c0 := hca 0 _ rfl
                have c1 := hca 1 _ rfl
                simp only [Nat.add_zero] at c0
                have HSP : Hid (spanN l a (q + 1) = spanN l a q + (if (!decide ((y.Out.toNat : Int) = 0) && !decide ((y.In.toNat : Int) = 0)) then 0 else 1)) := span_step hy hq1
                have HKC := Lib.hid (HKM.out (y.In.toNat : Int) (y.Out.toNat : Int))
                clear hca hra hy
                generalize (!decide ((y.Out.toNat : Int) = 0) && !decide ((y.In.toNat : Int) = 0)) = kp at *
                generalize (y.In.toNat : Int) = a1 at *
                generalize (y.Out.toNat : Int) = b1' at *
                generalize spanN l a q = E0 at *
                go_wp2_with fail
                refine (HKC.out _).mono ?_
                rintro e w4 ⟨rfl, hb4⟩
                have HB4 : Hid (Below w.heap.size w w4) := below_step HB3.out hb4
                have HI4 := Lib.hid (HI3.out.kept hb4)
                clear hb4
                cases kp
                · have HE : Hid (spanN l a (q + 1) = E0 + 1) := HSP.out
                  go_wp2
                  go_roundw
                  case rel => exact ⟨q + 1, by omega, by omega, by go_num, by rw [HE.out]; go_num, HB4.out, HI4.out⟩
                  case measure => simp [intOf]; omega
                · have HE : Hid (spanN l a (q + 1) = E0) := HSP.out
                  go_wp2
                  go_roundw
                  case rel => exact ⟨q + 1, by omega, by omega, by go_num, by rw [HE.out], HB4.out, HI4.out⟩
                  case measure => simp [intOf]; omega
              · obtain rfl : q = b := by omega
                rw [← HR.out] at *
                go_wp2
                go_ret
                exact ⟨rfl, HB3.out⟩
end Go.Proofs.Ytfcmhbbeohhjmaa
