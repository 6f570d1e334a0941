/- The program's SyllablesOf, CountSyllables, IsRegular: what they answer. -/
import Derived.Test.YtjajbkbocbodfaaDoorY6
import Derived.Test.YtjajbkbocbodfaaDoorIv
import Derived.Test.YtjajbkbocbodfaaDoorIb
namespace Go.Proofs.YtjajbkbocbodfaaDoor
open Go.RowKit M

def dvT (s : ByteArray) : Nat → List Syl × Syl
  | 0 => ([], syZ)
  | i + 1 => dvStep s i (dvT s i)
theorem dv_len (s : ByteArray) : ∀ i, (dvT s i).1.length ≤ i ∧ (dvT s i).2.o.length ≤ i ∧ (dvT s i).2.c.length ≤ i
  | 0 => ⟨Nat.le_refl _, Nat.le_refl _, Nat.le_refl _⟩
  | i + 1 => by
    obtain ⟨h1, h2, h3⟩ := dv_len s i
    rw [dvT]
    generalize dvT s i = t at *
    obtain ⟨l, x⟩ := t
    simp only at h1 h2 h3
    unfold dvStep
    split <;> split
    all_goals simp only [List.length_append, List.length_singleton, List.length_drop, List.length_nil]
    all_goals omega
/-- The model's two parts and the builder's: the same, but for a consonant that waits. -/
inductive DvRel (s : ByteArray) (i : Nat) (t d : List Syl × Syl) : Prop
  | same (e : t = d) (hl : t.2.n = [] → t.2.c = []) (hc : t.2.c ≠ [] → i < s.size → hasF (bAt s i) 0 = false)
  | waits (l : List Syl) (y : Syl) (b : UInt8) (et : t = (l ++ [y], ⟨[b], [], []⟩)) (ed : d = (l, ⟨y.o, y.n, y.c ++ [b]⟩)) (hn : y.n ≠ []) (hi : i < s.size) (hv : hasF (bAt s i) 0 = true)
theorem kept_last (c : List UInt8) (b : UInt8) : (c ++ [b]).take (keptN (c ++ [b])) = c ∧ (c ++ [b]).drop (keptN (c ++ [b])) = [b] := by
  have h : keptN (c ++ [b]) = c.length := by unfold keptN; simp
  rw [h]
  simp
theorem dv_rel (s : ByteArray) : ∀ i, i ≤ s.size → DvRel s i (syT s i) (dvT s i)
  | 0, _ => .same rfl (fun _ => rfl) (fun h => absurd rfl h)
  | i + 1, h => by
    have ih := dv_rel s i (by omega)
    generalize hst : syT s i = t at ih
    generalize hdt : dvT s i = d at ih
    have hd : dvT s (i + 1) = dvStep s i d := by rw [dvT, hdt]
    cases ih with
    | same e hl hc =>
      subst e
      obtain ⟨l, x⟩ := t
      simp only at hl hc
      by_cases hv : hasF (bAt s i) 0 = true
      · by_cases hn : x.n = []
        · rw [syT_vow_in hst hv hn, hd, dvStep, if_pos hv, if_pos hn]
          exact .same rfl (fun h0 => by simp at h0) (fun h0 => absurd (hl hn) h0)
        · have hc0 : x.c = [] := by
            rcases Classical.em (x.c = []) with h0 | h0
            · exact h0
            · rw [hc h0 (by omega)] at hv; cases hv
          rw [syT_vow_new hst hv hn, hd, dvStep, if_pos hv, if_neg hn]
          refine .same ?_ (fun h0 => by simp at h0) (fun h0 => absurd rfl h0)
          obtain ⟨o, n, c⟩ := x
          simp only at hc0
          subst hc0
          rfl
      · have hv : hasF (bAt s i) 0 = false := by simpa using hv
        by_cases hn : x.n = []
        · rw [syT_onset hst hv hn, hd, dvStep, if_neg (by simp [hv]), if_pos hn]
          exact .same rfl (fun _ => hl hn) (fun h0 => absurd (hl hn) h0)
        · by_cases h1 : vowAt s ((i : Int) + 1) = true
          · have h2 : i + 1 < s.size := by
              rcases Nat.lt_or_ge (i + 1) s.size with h2 | h2
              · exact h2
              · unfold vowAt at h1
                have : decide ((i : Int) + 1 < (s.size : Int)) = false := by simp; omega
                rw [this] at h1
                simp at h1
            have h3 : hasF (bAt s (i + 1)) 0 = true := by
              have := vowAt_in s (i + 1) h2
              rw [← this]
              exact h1
            rw [syT_next hst hv hn h1, hd, dvStep, if_neg (by simp [hv]), if_neg hn]
            exact .waits l x (byA s i) rfl rfl hn h2 h3
          · have h1 : vowAt s ((i : Int) + 1) = false := by simpa using h1
            rw [syT_coda hst hv hn h1, hd, dvStep, if_neg (by simp [hv]), if_neg hn]
            refine .same rfl (fun h0 => absurd h0 hn) (fun _ h2 => ?_)
            have := vowAt_in s (i + 1) h2
            rw [← this]
            exact h1
    | waits l y b et ed hn hi hv =>
      subst et ed
      rw [syT_vow_in hst hv rfl, hd, dvStep, if_pos hv, if_neg hn]
      obtain ⟨k1, k2⟩ := kept_last y.c b
      simp only [k1, k2]
      exact .same rfl (fun h0 => by simp at h0) (fun h0 => absurd rfl h0)
theorem dv_end (s : ByteArray) : dvT s s.size = syT s s.size := by
  have h := dv_rel s s.size (Nat.le_refl _)
  cases h with
  | same e _ _ => exact e.symm
  | waits l y b et ed hn hi hv => omega
set_option maxHeartbeats 2000000 in
theorem implSyl_in (s : ByteArray) (w : World) (hf : isFm s = true) (hc : 0 < cntV s s.size) (hT : FeatTab w) :
    Calls Tryd.prog 23 #[.string s] w (SylPost ((syT s s.size).1 ++ [(syT s s.size).2]) w) := by
  have HT := Lib.hid hT
  have h8 := isFm_size hf
  have HM := Lib.hid (show s.size ≤ maxLen by unfold maxLen; omega)
  have hc0 : (((cntV s s.size : Nat) : Int) == 0) = false := by simp; omega
  have hcl := cntV_le s s.size
  have HD := Lib.hid (dv_end s)
  clear hT
  go_enter Tryd.func23, Tryd.ntmps23
  go_wp2_with fail
  refine (implFmS_any s _ HM.out).mono ?_
  rintro e w2 ⟨rfl, rfl⟩
  rw [hf]
  go_wp2_with fail
  refine (implCntS_any s _ HM.out HT.out).mono ?_
  rintro e w2 ⟨rfl, rfl⟩
  generalize cntV s s.size = cn at *
  go_wp2
  go_loopw [15] (fun i wr => ∃ (k : Nat), k ≤ s.size ∧ i = .int .i64 k ∧ BSt w.heap.size w.heap.size wr (dvT s k).1 (dvT s k).2 ∧ Below w.heap.size w wr) (fun i _ => s.size - (intOf i).toNat)
  case atStart =>
    refine ⟨0, by omega, rfl, ⟨.slice none 0 0, heap_alloc_new _ _, ⟨rfl, Or.inl ⟨rfl, rfl⟩⟩, by simp [Value.ownBlock]⟩, (Below.refl _ _).alloc (Nat.le_refl _) _⟩
  case round =>
    obtain ⟨k, hk, rfl, hst, hbe⟩ := hrel
    have HST := Lib.hid hst
    have HBE := Lib.hid hbe
    have hln := dv_len s k
    by_cases hkl : k < s.size
    · have hpart := part_of s k hkl
      have g1 : (0 : Int) ≤ (k : Int) := by omega
      have g2 : (k : Int) + 1 ≤ (s.size : Int) := by omega
      have g3 : (k : Int) ≤ (k : Int) + 1 := by omega
      have hwk : IntKind.i64.wrap ((k : Int) + 1) = (k : Int) + 1 := IntWalk.i64_in _ (by omega)
      have hnk : ((k : Int) + 1).toNat = k + 1 := by omega
      have HV := Lib.hid (vowAt_in s k hkl)
      have HIV : Hid (Calls Tryd.prog 37 #[.string s, .int .i64 k] wr fun e w' => e = .returned (.bool (hasF (bAt s k) 0)) ∧ wr = w') := by
        have := implVowS_any s k wr HM.out (feat_below HT.out hbe); rw [HV.out] at this; exact this
      have HAV := Lib.hid (implVowelTo_any w.heap.size w.heap.size (dvT s k).1 (dvT s k).2 (byA s k) wr (Nat.le_refl _) (by omega) (by omega) hst)
      have HAC := Lib.hid (implCons_any w.heap.size w.heap.size (dvT s k).1 (dvT s k).2 (byA s k) wr (Nat.le_refl _) (by omega) (by omega) hst)
      have HDS : Hid (dvT s (k + 1) = dvStep s k (dvT s k)) := rfl
      clear hst hbe hln
      by_cases hv : hasF (bAt s k) 0 = true
      · have HD1 : Hid (dvT s (k + 1) = (if (dvT s k).2.n = [] then (dvT s k).1 else (dvT s k).1 ++ [⟨(dvT s k).2.o, (dvT s k).2.n, (dvT s k).2.c.take (keptN (dvT s k).2.c)⟩], if (dvT s k).2.n = [] then ⟨(dvT s k).2.o, [byA s k], (dvT s k).2.c⟩ else ⟨(dvT s k).2.c.drop (keptN (dvT s k).2.c), [byA s k], []⟩)) := by
          unfold Hid; rw [HDS.out, dvStep, if_pos hv]; split <;> rfl
        rw [hv] at HIV
        go_wp2_with fail
        refine HIV.out.mono ?_
        rintro e w2 ⟨rfl, rfl⟩
        go_wp2_with fail
        refine HAV.out.mono ?_
        rintro e w2 ⟨rfl, hst2, hb2⟩
        have H2 : Hid (BSt w.heap.size w.heap.size w2 (dvT s (k + 1)).1 (dvT s (k + 1)).2) := by unfold Hid; rw [HD1.out]; exact hst2
        have HB2 := Lib.hid (HBE.out.trans hb2)
        clear hst2 hb2
        go_wp2
        go_roundw
        case rel => exact ⟨k + 1, by omega, by go_num, H2.out, HB2.out⟩
        case measure => simp [intOf]; omega
      · have hv : hasF (bAt s k) 0 = false := by simpa using hv
        have HD1 : Hid (dvT s (k + 1) = ((dvT s k).1, if (dvT s k).2.n = [] then ⟨(dvT s k).2.o ++ [byA s k], (dvT s k).2.n, (dvT s k).2.c⟩ else ⟨(dvT s k).2.o, (dvT s k).2.n, (dvT s k).2.c ++ [byA s k]⟩)) := by
          unfold Hid; rw [HDS.out, dvStep, if_neg (by simp [hv])]
        rw [hv] at HIV
        go_wp2_with fail
        refine HIV.out.mono ?_
        rintro e w2 ⟨rfl, rfl⟩
        go_wp2_with fail
        refine HAC.out.mono ?_
        rintro e w2 ⟨rfl, hst2, hb2⟩
        have H2 : Hid (BSt w.heap.size w.heap.size w2 (dvT s (k + 1)).1 (dvT s (k + 1)).2) := by unfold Hid; rw [HD1.out]; exact hst2
        have HB2 := Lib.hid (HBE.out.trans hb2)
        clear hst2 hb2
        go_wp2
        go_roundw
        case rel => exact ⟨k + 1, by omega, by go_num, H2.out, HB2.out⟩
        case measure => simp [intOf]; omega
    · obtain rfl : k = s.size := by omega
      rw [HD.out] at hst hln
      clear HST
      obtain ⟨v, hin, hown, hne⟩ := hst
      obtain ⟨c0, c1, c2, c3⟩ := hin.cells
      have HO := Lib.hid hown
      have hl1 : (syT s s.size).1.length ≤ 1000000000 := by omega
      generalize (syT s s.size).1 = l at *
      generalize (syT s s.size).2 = x at *
      obtain ⟨o, n, c⟩ := x
      simp only at c0 c1 c2
      clear hin hown hne hbe
      go_wp2_with (at_builtin; refine wpList_append_syl _ rfl (.tmp 35) (.tmp 38) rfl w.heap.size _ _ _ rfl HO.out ⟨o, n, c⟩ rfl hl1 HBE.out.size ?_; intro v' w' hown' hb' _)
      go_ret
      exact ⟨_, rfl, by rw [List.length_append, List.length_singleton]; exact hown', HBE.out.trans hb'⟩
theorem syl_nil (w : World) : w.ownsRow w.heap.size 38 3 (.slice none 0 0) ([] : List Syl).length (cellsY []) := ⟨rfl, Or.inl ⟨rfl, rfl⟩⟩
theorem implSyl_any (s : ByteArray) (w : World) (hs : s.size ≤ maxLen) (hT : FeatTab w) :
    Calls Tryd.prog 23 #[.string s] w (SylPost (sylL s) w) := by
  by_cases hf : isFm s = true
  · by_cases hc : 0 < cntV s s.size
    · rw [sylL_in hf hc]; exact implSyl_in s w hf hc hT
    · have HE := Lib.hid (sylL_out (s := s) fun h => hc h.2)
      have HM := Lib.hid hs
      have HT := Lib.hid hT
      have hc0 : cntV s s.size = 0 := by omega
      clear hT
      go_enter Tryd.func23, Tryd.ntmps23
      go_wp2_with fail
      refine (implFmS_any s _ HM.out).mono ?_
      rintro e w2 ⟨rfl, rfl⟩
      rw [hf]
      go_wp2_with fail
      refine (implCntS_any s _ HM.out HT.out).mono ?_
      rintro e w2 ⟨rfl, rfl⟩
      rw [hc0]
      go_wp2
      go_ret
      exact ⟨_, rfl, by rw [HE.out]; exact syl_nil w, Below.refl _ _⟩
  · have HE := Lib.hid (sylL_out (s := s) fun h => hf h.1)
    have hf : isFm s = false := by simpa using hf
    have HM := Lib.hid hs
    go_enter Tryd.func23, Tryd.ntmps23
    go_wp2_with fail
    refine (implFmS_any s _ HM.out).mono ?_
    rintro e w2 ⟨rfl, rfl⟩
    rw [hf]
    go_wp2
    go_ret
    exact ⟨_, rfl, by rw [HE.out]; exact syl_nil w, Below.refl _ _⟩
theorem implCountS_any (s : ByteArray) (w : World) (hs : s.size ≤ maxLen) (hT : FeatTab w) :
    Calls Tryd.prog 25 #[.string s] w fun e w' => e = .returned (.int .i64 ((sylL s).length : Int)) ∧ Below w.heap.size w w' := by
  have HS := Lib.hid (implSyl_any s w hs hT)
  have hl := sylL_len s
  clear hs hT
  go_enter Tryd.func25, Tryd.ntmps25
  go_wp2_with fail
  refine HS.out.mono ?_
  rintro e w1 ⟨v, rfl, hown, hb⟩
  obtain ⟨A, cap, rfl, _⟩ := syl_read hown
  have HB := Lib.hid hb
  clear hown hb
  go_wp2
  go_ret
  exact ⟨rfl, HB.out⟩
theorem cell_keptS {w w' : World} (hb : Below w.heap.size w w') {p : Addr} {v : Value} (h : w.cell? p = some v) : w'.cell? p = some v := (hb.cell (block_lt_of_cell h)).trans h
theorem implOk_any (x : Syl) (w : World) :
    Calls Tryd.prog 58 #[sylV x] w fun e w' => e = .returned (.bool (okSyl x)) ∧ Below w.heap.size w w' := by
  have HOK : Hid (okSyl x = (decide (x.o.length = 1) && decide (x.c.length ≤ 1))) := rfl
  unfold sylV
  have s0 := bs_size x.o
  have s2 := bs_size x.c
  generalize bs x.o = O at *
  generalize bs x.n = N at *
  generalize bs x.c = C at *
  generalize x.o.length = lo at *
  generalize x.c.length = lc at *
  go_enter Tryd.func58, Tryd.ntmps58
  go_wp2
  · go_ret
    refine ⟨ret_bool ?_, (Below.refl _ _).alloc (Nat.le_refl _) _⟩
    rw [HOK.out, show decide (lo = 1) = true by simp; omega, Bool.true_and]
    exact decide_eq_decide.2 (by omega)
  · go_ret
    refine ⟨ret_bool ?_, (Below.refl _ _).alloc (Nat.le_refl _) _⟩
    rw [HOK.out, show decide (lo = 1) = false by simp; omega]
    rfl
theorem implReg_any (s : ByteArray) (w : World) (hs : s.size ≤ maxLen) (hT : FeatTab w) :
    Calls Tryd.prog 29 #[.string s] w fun e w' => e = .returned (.bool (regL (sylL s))) ∧ Below w.heap.size w w' := by
  have HS := Lib.hid (implSyl_any s w hs hT)
  have hl := sylL_len s
  clear hs hT
  have HNO : Hid (∀ k, k < (sylL s).length → okSyl ((sylL s).getD k syZ) = false → regL (sylL s) = false) := fun k h hn => regL_no k h hn
  have HAL : Hid ((∀ k, k < (sylL s).length → okSyl ((sylL s).getD k syZ) = true) → regL (sylL s) = decide (0 < (sylL s).length)) := regL_all
  generalize regL (sylL s) = r at *
  go_enter Tryd.func29, Tryd.ntmps29
  go_wp2_with fail
  refine HS.out.mono ?_
  rintro e w1 ⟨v, rfl, hown, hb⟩
  obtain ⟨A, cap, rfl, hrd⟩ := syl_read hown
  have HB := Lib.hid hb
  have HRD := Lib.hid hrd
  clear hown hb hrd
  generalize sylL s = l at *
  generalize hll : l.length = n at *
  clear hll
  go_wp2
  go_loopw [10] (fun i wr => ∃ (k : Nat), k ≤ n ∧ i = .int .i64 k ∧ Hid (∀ j, j < k → okSyl (l.getD j syZ) = true) ∧ Below w1.heap.size w1 wr) (fun i _ => n - (intOf i).toNat)
  case atStart => exact ⟨0, by omega, rfl, fun j hj => by omega, Below.refl _ _⟩
  case round =>
    obtain ⟨k, hk, rfl, hall, hbe⟩ := hrel
    by_cases hkl : k < n
    · obtain ⟨g, rfl, h0, h1, h2⟩ := HRD.out k hkl
      have c0 := cell_keptS hbe h0
      have c1 := cell_keptS hbe h1
      have c2 := cell_keptS hbe h2
      have HNK := Lib.hid (HNO.out k hkl)
      have hcase : okSyl (l.getD k syZ) = true ∨ okSyl (l.getD k syZ) = false := by cases okSyl (l.getD k syZ) <;> simp
      have HST : Hid (okSyl (l.getD k syZ) = true → ∀ j, j < k + 1 → okSyl (l.getD j syZ) = true) := fun h j hj => by
        by_cases hjk : j = k
        · subst hjk; exact h
        · exact hall.out j (by omega)
      have HOK : Hid (∀ W : World, Calls Tryd.prog 58 #[sylV (l.getD k syZ)] W fun e w' => e = .returned (.bool (okSyl (l.getD k syZ))) ∧ Below W.heap.size W w') := fun W => implOk_any _ W
      have HBE := Lib.hid hbe
      clear h0 h1 h2 hbe
      unfold sylV at HOK
      generalize okSyl (l.getD k syZ) = b at *
      generalize bs (l.getD k syZ).o = O at *
      generalize bs (l.getD k syZ).n = N at *
      generalize bs (l.getD k syZ).c = C at *
      go_wp2_with fail
      refine (HOK.out _).mono ?_
      rintro e w2 ⟨rfl, hb2⟩
      have HB2 : Hid (Below w1.heap.size w1 w2) := HBE.out.trans ((((Below.refl _ _).alloc (Nat.le_refl _) _).trans (hb2.mono (by simp))).mono HBE.out.size)
      clear hb2
      rcases hcase with rfl | rfl
      · go_wp2
        go_roundw
        case rel => exact ⟨k + 1, by omega, by go_num, HST.out (by trivial), HB2.out⟩
        case measure => simp [intOf]; omega
      · go_wp2
        go_ret
        exact ⟨ret_bool (HNK.out (by trivial)).symm, HB.out.trans (HB2.out.mono HB.out.size)⟩
    · obtain rfl : k = n := by omega
      have HE := Lib.hid (HAL.out hall.out)
      have HBE := Lib.hid hbe
      clear hbe
      go_wp2
      go_ret
      exact ⟨ret_bool (by rw [HE.out]), HB.out.trans (HBE.out.mono HB.out.size)⟩
end Go.Proofs.YtjajbkbocbodfaaDoor
