/- The program's CountBreaks: what it answers. -/
import Derived.Test.YtfcmhbbeohhjmaaId9
import Derived.Test.YtfcmhbbeohhjmaaRb
namespace Go.Proofs.Ytfcmhbbeohhjmaa
set_option maxRecDepth 100000
open Go.RowKit M
set_option linter.unusedVariables false
set_option linter.unusedSimpArgs false
set_option maxRecDepth 100000

/-- Some places of a row, one after the other. -/
theorem RowRd.sub {α : Type} {E : Rep α} {w : World} {g off n cap : Nat} {l : List α} {F : Addr → Prop} (h : RowRd E false w (.slice (some ⟨g, off, none⟩) n cap) l F) (f e c : Nat) (he : e ≤ l.length) :
    RowRd E false w (.slice (some ⟨g, off + f * E.size, none⟩) (e - f) c) ((l.take e).drop f) F := by
  have hm := h.max
  obtain ⟨A', cap', Fk, hv, _, hr⟩ := h
  cases hv
  have hlen : ((l.take e).drop f).length = e - f := by rw [List.length_drop, List.length_take]; omega
  refine ⟨some ⟨g, off + f * E.size, none⟩, c, fun k => Fk (f + k), by rw [hlen], ⟨by rw [hlen]; omega, fun h => by cases h⟩, fun k x hk => ?_⟩
  have hk1 : k < e - f := by rw [← hlen]; exact (List.getElem?_eq_some_iff.1 hk).1
  rw [List.getElem?_drop, List.getElem?_take, if_pos (by omega)] at hk
  obtain ⟨g2, off2, xs, ha, h1, h2, h3, h4⟩ := hr (f + k) x hk
  cases ha
  refine ⟨g, off + f * E.size, xs, rfl, h1, h2, fun j u hj => ?_, fun h => by cases h⟩
  have h5 := h3 j u hj
  rw [Nat.add_mul, ← Nat.add_assoc] at h5
  exact ⟨h5.1, h5.2.1, fun h => by cases h⟩
def idxI (p : DLink → Bool) (l : List DLink) : Int := if l.findIdx p < l.length then (l.findIdx p : Nat) else -1
theorem idx_none {p : DLink → Bool} {l : List DLink} (h : ∀ (j : Nat) (y : DLink), j < l.length → l[j]? = some y → p y = false) : idxI p l = -1 := by
  have h1 : l.findIdx p = l.length := by
    rw [List.findIdx_eq_length]
    intro x hx
    obtain ⟨j, hj, rfl⟩ := List.getElem_of_mem hx
    exact h j _ hj (List.getElem?_eq_getElem hj)
  unfold idxI; rw [if_neg (by omega)]
theorem idx_some {p : DLink → Bool} {l : List DLink} {f : Nat} {x : DLink} (h : l[f]? = some x) (hx : p x = true) (hf : ∀ (j : Nat) (y : DLink), j < f → l[j]? = some y → p y = false) : idxI p l = f := by
  obtain ⟨hl, rfl⟩ := List.getElem?_eq_some_iff.1 h
  have h1 : l.findIdx p = f := by
    rw [List.findIdx_eq hl]
    exact ⟨hx, fun j hj => hf j _ hj (List.getElem?_eq_getElem (by omega))⟩
  unfold idxI; rw [h1, if_pos hl]
set_option maxHeartbeats 4000000 in
theorem indexFunc_any (q : Nat) (p : DLink → Bool) (hp : CondK q p) (l : List DLink) (v : Value) (F : Addr → Prop) (w : World) (hl : l.length ≤ 1048576) (hv : RowRd rLink false w v l F) :
    Calls Try.prog 55 #[v, .func (.func q) #[] #[]] w fun e w' => e = .returned (.int .i64 (idxI p l)) ∧ Below w.heap.size w w' := by
  obtain ⟨A, cap, rfl⟩ := hv.form
  have HV := Lib.hid hv
  clear hv
  have KP := Lib.hid hp.1
  have CP := Lib.hid hp.2
  clear hp
  have HX : Hid (∀ k, k < l.length → ∃ y, l[k]? = some y) := fun k hk => ⟨_, List.getElem?_eq_getElem hk⟩
  have HN : Hid ((∀ (j : Nat) (y : DLink), j < l.length → l[j]? = some y → p y = false) → idxI p l = -1) := idx_none
  have HS : Hid (∀ (f : Nat) (x : DLink), l[f]? = some x → p x = true → (∀ (j : Nat) (y : DLink), j < f → l[j]? = some y → p y = false) → idxI p l = f) := fun f x => idx_some
  generalize idxI p l = r at *
  go_enter Try.func55, Try.ntmps55
  go_wp2
  go_loopw [8] (fun i wr => ∃ (k : Nat), k ≤ l.length ∧ i = .int .i64 k ∧ Hid (∀ (j : Nat) (y : DLink), j < k → l[j]? = some y → p y = false) ∧ Below w.heap.size w wr) (fun i _ => l.length - (intOf i).toNat)
  case atStart => exact ⟨0, by omega, rfl, fun j y hj => by omega, Below.refl _ _⟩
  case round =>
    obtain ⟨k, hk, rfl, hno, hbe⟩ := hrel
    have HBE := Lib.hid hbe
    clear hbe
    by_cases hkl : k < l.length
    · obtain ⟨y, hy⟩ := HX.out k hkl
      obtain ⟨g, off, xs, Fk, rfl, _, hra, _, hca⟩ := (HV.out.kept HBE.out).get hy
      obtain rfl := rLink_rd hra
      rw [rLink_size] at hca
      have c0 := hca 0 _ rfl
      have c1 := hca 1 _ rfl
      simp only [Nat.add_zero] at c0
      have HY : Hid (p y = true → r = k) := fun h => HS.out k y hy h hno.out
      have HM : Hid (p y = false → ∀ (j : Nat) (z : DLink), j < k + 1 → l[j]? = some z → p z = false) := fun h j z hj hz => by
        by_cases hjk : j = k
        · subst hjk; rw [hy] at hz; cases hz; exact h
        · exact hno.out j z (by omega) hz
      have CY : Hid (∀ W, Calls Try.prog q #[lkV y] W fun e w'' => e = .returned (.bool (p y)) ∧ Below W.heap.size W w'') := fun W => CP.out y W
      clear hca hra hy
      unfold lkV at CY
      generalize (y.In.toNat : Int) = a at *
      generalize (y.Out.toNat : Int) = b at *
      generalize p y = c at *
      go_wp2_with fail
      rw [KP.out, Oper.upon_enter]
      refine (CY.out _).mono ?_
      rintro e w2 ⟨rfl, hb2⟩
      have HB2 : Hid (Below w.heap.size w w2) := below_step HBE.out hb2
      clear hb2
      cases c
      · have HE := Lib.hid (HM.out rfl)
        go_wp2
        go_roundw
        case rel => exact ⟨k + 1, by omega, by go_num, HE, HB2.out⟩
        case measure => simp [intOf]; omega
      · have HE := Lib.hid (HY.out rfl)
        go_wp2
        go_ret
        exact ⟨by rw [HE.out]; rfl, HB2.out⟩
    · obtain rfl : k = l.length := by omega
      have HE := Lib.hid (HN.out hno.out)
      go_wp2
      go_ret
      exact ⟨by rw [HE.out]; rfl, HBE.out⟩
theorem valid_cap (l : List DLink) (A : Option Addr) (cap : Nat) (F : Addr → Prop) (w : World) (hl : l.length ≤ 1048576) (hcap : l.length ≤ cap) (hv : RowRd rLink false w (.slice A l.length cap) l F) :
    Calls Try.prog 30 #[.agg #[.slice A l.length cap]] w fun e w' => ∃ A2 c2, e = .returned (.slice A2 (valL l).length c2) ∧ (valL l).length ≤ c2 ∧ RowRd rLink false w' (.slice A2 (valL l).length c2) (valL l) F ∧ Below w.heap.size w w' := by
  have HIS : Hid (∀ W, Below w.heap.size w W → Calls Try.prog 38 #[.agg #[.slice A l.length cap]] W fun e w' => e = .returned (.bool (isCd l)) ∧ Below W.heap.size W w') := fun W hW => implIsCd_any ⟨l⟩ _ F W hl (hv.kept hW)
  have HV : Hid (∀ W, Below w.heap.size w W → RowRd rLink false W (.slice A l.length cap) l F) := fun W hW => hv.kept hW
  clear hv
  have HR : Hid (valL l = if isCd l then l else []) := rfl
  generalize isCd l = c at *
  generalize valL l = r at *
  have HB : Hid (Below w.heap.size w (w.alloc (.cells #[.slice A l.length cap] 29))) := (Below.refl _ _).alloc (Nat.le_refl _) _
  have HX : Hid (InC (w.alloc (.cells #[.slice A l.length cap] 29)) w.heap.size #[.slice A l.length cap] 29) := heap_alloc_new _ _
  go_enter Try.func30, Try.ntmps30
  go_wp2_with fail
  refine (HIS.out _ HB.out).mono ?_
  rintro e w2 ⟨rfl, hb2⟩
  have c0 := (HX.out.kept hb2).cell 0 rfl
  have HB2 : Hid (Below w.heap.size w w2) := below_step HB.out hb2
  clear hb2
  cases c
  · obtain rfl : r = [] := HR.out
    go_wp2_with fail
    go_ret
    exact ⟨none, 0, rfl, Nat.le_refl _, RowRd.nil _ _ _, HB2.out⟩
  · obtain rfl : r = l := HR.out
    go_wp2_with fail
    go_ret
    exact ⟨A, cap, rfl, hcap, HV.out _ HB2.out, HB2.out⟩
set_option maxHeartbeats 4000000 in
theorem inside_any (l : List DLink) (A : Option Addr) (cap : Nat) (F : Addr → Prop) (w : World) (hl : l.length ≤ 1048576) (hcap : l.length ≤ cap) (hv : RowRd rLink false w (.slice A l.length cap) l F) :
    Calls Try.prog 36 #[.slice A l.length cap] w fun e w' => ∃ u, e = .returned u ∧ RowRd rLink false w' u (insideL l) F ∧ Below w.heap.size w w' := by
  have HV := Lib.hid hv
  have HIX := Lib.hid (indexFunc_any _ _ cKept l _ F w hl hv)
  clear hv
  have HK : Hid (∀ (y : DLink) W, Calls Try.prog 54 #[lkV y] W fun e w'' => e = .returned (.bool (kepK y)) ∧ Below W.heap.size W w'') := fun y W => kept_any y W
  go_enter Try.func36, Try.ntmps36
  go_wp2_with fail
  refine HIX.out.mono ?_
  rintro e w2 ⟨rfl, hb2⟩
  have HB2 := Lib.hid hb2
  clear hb2
  by_cases hf : l.findIdx kepK < l.length
  case neg =>
    have HI : Hid (idxI kepK l = -1) := by unfold Hid idxI; rw [if_neg hf]
    have HE : Hid (insideL l = []) := inside_none fun j y hy => by
      have h1 : l.findIdx kepK = l.length := Nat.le_antisymm List.findIdx_le_length (by omega)
      rw [List.findIdx_eq_length] at h1
      exact h1 y (List.mem_of_getElem? hy)
    rw [HI.out]
    go_wp2_with fail
    go_ret
    exact ⟨_, rfl, by rw [HE.out]; exact RowRd.nil _ _ _, HB2.out⟩
  have HI : Hid (idxI kepK l = (l.findIdx kepK : Nat)) := by unfold Hid idxI; rw [if_pos hf]
  have hfx : l[l.findIdx kepK]? = some l[l.findIdx kepK] := List.getElem?_eq_getElem hf
  have hkx : kepK l[l.findIdx kepK] = true := List.findIdx_getElem
  have hnx : ∀ (j : Nat) (z : DLink), j < l.findIdx kepK → l[j]? = some z → kepK z = false := fun j z hj hz => by
    have h1 := List.not_of_lt_findIdx hj
    obtain ⟨h2, rfl⟩ := List.getElem?_eq_some_iff.1 hz
    simpa using h1
  have HIN : Hid (∀ (e : Nat) (y : DLink), l[e]? = some y → kepK y = true → (∀ (j : Nat) (z : DLink), e < j → l[j]? = some z → kepK z = false) → insideL l = (l.take (e + 1)).drop (l.findIdx kepK)) := fun e y hy ky he => inside_is hfx hkx hnx hy ky he
  have HFK : Hid (∀ (j : Nat) (y : DLink), l[j]? = some y → j = l.findIdx kepK → kepK y = true) := fun j y hy hj => by
    subst hj; rw [hfx] at hy; cases hy; exact hkx
  have HX : Hid (∀ k, k < l.length → ∃ y, l[k]? = some y) := fun k hk => ⟨_, List.getElem?_eq_getElem hk⟩
  rw [HI.out]
  clear HI hfx hkx hnx HIX
  generalize hfv : l.findIdx kepK = f at *
  have HRW : Hid (RowRd rLink false w2 (.slice A l.length cap) l F) := HV.out.kept HB2.out
  go_wp2_with fail
  go_loopw [4] (fun i wr => ∃ (k : Nat), f < k ∧ k ≤ l.length ∧ i = .int .i64 k ∧ Hid (∀ (j : Nat) (z : DLink), k ≤ j → l[j]? = some z → kepK z = false) ∧ Below w.heap.size w wr) (fun i _ => (intOf i).toNat)
  case atStart => exact ⟨l.length, hf, Nat.le_refl _, rfl, fun j z hj hz => by have := (List.getElem?_eq_some_iff.1 hz).1; omega, HB2.out⟩
  case round =>
    obtain ⟨k, hk0, hk, rfl, hno, hbe⟩ := hrel
    have HBE := Lib.hid hbe
    clear hbe
    obtain ⟨e, rfl⟩ : ∃ e, k = e + 1 := ⟨k - 1, by omega⟩
    obtain ⟨y, hy⟩ := HX.out e (by omega)
    have HRR : Hid (RowRd rLink false wr (.slice A l.length cap) l F) := HV.out.kept HBE.out
    obtain ⟨g, off, xs, Fk, rfl, _, hra, _, hca⟩ := HRR.out.get hy
    obtain rfl := rLink_rd hra
    rw [rLink_size] at hca
    have c0 := hca 0 _ rfl
    have c1 := hca 1 _ rfl
    simp only [Nat.add_zero] at c0
    have HNY : Hid (kepK y = false → f < e ∧ ∀ (j : Nat) (z : DLink), e ≤ j → l[j]? = some z → kepK z = false) := fun h => by
      refine ⟨?_, fun j z hj hz => ?_⟩
      · rcases Nat.lt_or_ge f e with h1 | h1
        · exact h1
        · have h2 := HFK.out e y hy (by omega)
          rw [h] at h2; cases h2
      · by_cases hje : j = e
        · subst hje; rw [hy] at hz; cases hz; exact h
        · exact hno.out j z (by omega) hz
    have HYY : Hid (kepK y = true → insideL l = (l.take (e + 1)).drop f) := fun h => HIN.out e y hy h fun j z hj hz => hno.out j z (by omega) hz
    have CY : Hid (∀ W, Calls Try.prog 54 #[lkV y] W fun e w'' => e = .returned (.bool (kepK y)) ∧ Below W.heap.size W w'') := fun W => HK.out y W
    clear hca hra hy
    unfold lkV at CY
    generalize (y.In.toNat : Int) = a at *
    generalize (y.Out.toNat : Int) = b at *
    generalize kepK y = c at *
    have e1 : ((e + 1 : Nat) : Int) - 1 = (e : Nat) := by omega
    have e2 : IntKind.i64.wrap (((e + 1 : Nat) : Int) - 1) = ((e : Nat) : Int) := by rw [e1, IntWalk.i64_in _ (by omega)]
    go_wp2_with fail
    refine (CY.out _).mono ?_
    rintro e' w3 ⟨rfl, hb3⟩
    have HB3 : Hid (Below w.heap.size w w3) := below_step HBE.out hb3
    have HR3 := Lib.hid (HRR.out.kept hb3)
    clear hb3
    cases c
    · have HE := Lib.hid (HNY.out rfl)
      go_wp2
      go_roundw
      case rel => exact ⟨e, HE.out.1, by omega, by go_num, HE.out.2, HB3.out⟩
      case measure => simp [intOf]
    · have HE := Lib.hid (HYY.out rfl)
      have hle : e + 1 ≤ l.length := hk
      have h1 : ((e + 1 : Nat) : Int) ≤ (cap : Nat) := by omega
      have h2 : (0 : Int) ≤ ((e + 1 : Nat) : Int) := by omega
      have h3 : (f : Int) ≤ ((e + 1 : Nat) : Int) := by omega
      have h4 : (0 : Int) ≤ (f : Int) := by omega
      have h5 : ¬ e + 1 = f := by omega
      have HSUB := Lib.hid (HR3.out.sub f (e + 1) (e + 1 - f) hle)
      go_wp2
      go_ret
      refine ⟨_, rfl, ?_, HB3.out⟩
      rw [HE.out]
      exact HSUB.out
theorem implBreaks_any (x : DCandidate) (A : Option Addr) (cap : Nat) (F : Addr → Prop) (w : World) (hl : x.Links.length ≤ 1048576) (hcap : x.Links.length ≤ cap) (hv : RowRd rLink false w (.slice A x.Links.length cap) x.Links F) :
    Calls Try.prog 19 #[.agg #[.slice A x.Links.length cap]] w fun e w' => e = .returned (.int .i64 (brkC x.Links : Nat)) ∧ Below w.heap.size w w' := by
  have HV : Hid (∀ W, Below w.heap.size w W → Calls Try.prog 30 #[.agg #[.slice A x.Links.length cap]] W fun e w' => ∃ A2 c2, e = .returned (.slice A2 (valL x.Links).length c2) ∧ (valL x.Links).length ≤ c2 ∧ RowRd rLink false w' (.slice A2 (valL x.Links).length c2) (valL x.Links) F ∧ Below W.heap.size W w') := fun W hW => valid_cap x.Links A cap F W hl hcap (hv.kept hW)
  have HN : Hid ((valL x.Links).length ≤ 1048576) := Nat.le_trans (val_len _) hl
  have HM : Hid ((insideL (valL x.Links)).length ≤ 1048576) := by
    have h1 : (insideL (valL x.Links)).length ≤ (valL x.Links).length := by unfold insideL; rw [List.length_drop, List.length_take]; omega
    exact Nat.le_trans h1 HN.out
  have HE : Hid (brkC x.Links = cntL delK (insideL (valL x.Links)) + cntL insK (insideL (valL x.Links))) := by
    unfold Hid brkC valL
    cases h : isCd x.Links
    · rfl
    · exact brk_two h
  have HLE : Hid (cntL delK (insideL (valL x.Links)) ≤ 1048576 ∧ cntL insK (insideL (valL x.Links)) ≤ 1048576) := ⟨Nat.le_trans List.countP_le_length HM.out, Nat.le_trans List.countP_le_length HM.out⟩
  clear hv
  generalize valL x.Links = m at *
  generalize brkC x.Links = r at *
  have HB : Hid (Below w.heap.size w (w.alloc (.cells #[.slice A x.Links.length cap] 29))) := (Below.refl _ _).alloc (Nat.le_refl _) _
  go_enter Try.func19, Try.ntmps19
  go_wp2_with fail
  refine (HV.out _ HB.out).mono ?_
  rintro e w2 ⟨A2, c2, rfl, hc2, hu, hb2⟩
  have HB2 : Hid (Below w.heap.size w w2) := below_step HB.out hb2
  have HU := Lib.hid hu
  have HC2 := Lib.hid hc2
  clear hb2 hu hc2
  go_wp2_with fail
  refine (inside_any m A2 c2 F w2 HN.out HC2.out HU.out).mono ?_
  rintro e w3 ⟨u, rfl, hu, hb3⟩
  have HB3 : Hid (Below w.heap.size w w3) := below_step HB2.out hb3
  have HU3 := Lib.hid hu
  clear hb3 hu
  generalize insideL m = t at *
  go_wp2_with fail
  refine (countLinks_any _ _ cAway t u F w3 HM.out HU3.out).mono ?_
  rintro e w4 ⟨rfl, hb4⟩
  have HB4 : Hid (Below w.heap.size w w4) := below_step HB3.out hb4
  have HU4 := Lib.hid (HU3.out.kept hb4)
  clear hb4
  go_wp2_with fail
  refine (countLinks_any _ _ cPutin t u F w4 HM.out HU4.out).mono ?_
  rintro e w5 ⟨rfl, hb5⟩
  have HB5 : Hid (Below w.heap.size w w5) := below_step HB4.out hb5
  clear hb5
  have hle := HLE.out
  have HS : Hid (((cntL delK t : Nat) : Int) + ((cntL insK t : Nat) : Int) = ((r : Nat) : Int)) := by unfold Hid; rw [HE.out]; omega
  generalize cntL delK t = d at *
  generalize cntL insK t = i at *
  have hw : IntKind.i64.wrap ((d : Int) + (i : Int)) = ((r : Nat) : Int) := by rw [IntWalk.i64_in _ (by omega)]; exact HS.out
  go_wp2_with fail
  go_ret
  exact ⟨rfl, HB5.out⟩
end Go.Proofs.Ytfcmhbbeohhjmaa
