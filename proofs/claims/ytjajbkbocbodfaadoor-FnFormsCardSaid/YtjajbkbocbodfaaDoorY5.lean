/- The model's SyllablesOf, CountSyllables, IsRegular: what they answer. -/
import Derived.Test.YtjajbkbocbodfaaDoorSy
import Derived.Test.YtjajbkbocbodfaaDoorAppY
import Derived.Test.YtjajbkbocbodfaaDoorN1
import Derived.Test.YtjajbkbocbodfaaDoorN2
namespace Go.Proofs.YtjajbkbocbodfaaDoor
open Go.RowKit M

def SylPost (l : List Syl) (w : World) (e : Ending) (w' : World) : Prop := ∃ v, e = .returned v ∧ w'.ownsRow w.heap.size 38 3 v l.length (cellsY l) ∧ Below w.heap.size w w'
/-- A new empty row of syllables. -/
theorem syl_empty (w : World) : (w.alloc (.cells #[] 38)).ownsRow w.heap.size 38 3 (.slice (some ⟨w.heap.size, 0, none⟩) 0 0) ([] : List Syl).length (cellsY []) :=
  ⟨rfl, Or.inr ⟨w.heap.size, 0, #[], rfl, Nat.le_refl _, heap_alloc_new _ _, Nat.le_refl _, Nat.zero_le _, rfl, rfl⟩⟩
theorem part_of (s : ByteArray) (k : Nat) (h : k < s.size) : s.extract k (k + 1) = bs [byA s k] := by
  rw [extract_one s k h]
  unfold byA bs
  have hl : k < s.data.toList.length := by simpa using h
  rw [List.getD_eq_getElem?_getD, List.getElem?_eq_getElem hl]
  rfl
theorem own_set {w : World} {base : Nat} {v : Value} {n B j : Nat} {xs : List Value} (h : w.ownsRow base 38 3 v n xs) (hv : v.ownBlock ≠ some B) (u : Value) : (w.setCell ⟨B, j, none⟩ u).ownsRow base 38 3 v n xs :=
  ownsRow_setCell_other h hv u
set_option maxRecDepth 20000 in
set_option maxHeartbeats 4000000 in
theorem specSyl_in (s : ByteArray) (w : World) (hf : isFm s = true) (hc : 0 < cntV s s.size) :
    Calls Tryd.prog 24 #[.string s] w (SylPost ((syT s s.size).1 ++ [(syT s s.size).2]) w) := by
  have h8 := isFm_size hf
  have HM := Lib.hid (show s.size ≤ maxLen by unfold maxLen; omega)
  have hc0 : (((cntV s s.size : Nat) : Int) == 0) = false := by simp; omega
  have hcl := cntV_le s s.size
  go_enter Tryd.func24, Tryd.ntmps24
  go_wp2_with fail
  refine (specFm_any s _ HM.out).mono ?_
  rintro e w2 ⟨rfl, rfl⟩
  rw [hf]
  go_wp2_with fail
  refine (specCnt_any s _ HM.out).mono ?_
  rintro e w2 ⟨rfl, rfl⟩
  generalize cntV s s.size = cn at *
  go_wp2
  go_loopw [3, 5] (fun v i wr => ∃ (k : Nat), k ≤ s.size ∧ i = .int .i64 k ∧ ∃ (l : List Syl) (x : Syl), Hid (syT s k = (l, x)) ∧ l.length ≤ k ∧ wr.ownsRow w.heap.size 38 3 v l.length (cellsY l) ∧ v.ownBlock ≠ some (w.heap.size + 1) ∧ InBlk wr (w.heap.size + 1) x ∧ Below w.heap.size w wr) (fun _ i _ => s.size - (intOf i).toNat)
  case atStart =>
    refine ⟨0, by omega, rfl, [], syZ, rfl, Nat.le_refl _, (syl_empty w).alloc _, by simp [Value.ownBlock], ?_, ((Below.refl _ _).alloc (Nat.le_refl _) _).alloc (by simp) _⟩
    have := heap_alloc_new (w.alloc (.cells #[] 38)) (.cells #[.string ⟨#[]⟩, .string ⟨#[]⟩, .string ⟨#[]⟩] 38)
    rw [World.size_alloc] at this
    exact this
  case round =>
    obtain ⟨k, hk, rfl, l, x, hsy, hll, hown, hne, hblk, hbe⟩ := hrel
    have HO := Lib.hid hown
    have HNE := Lib.hid hne
    have HBK := Lib.hid hblk
    have HBE := Lib.hid hbe
    clear hown hne hblk hbe
    obtain ⟨c0, c1, c2⟩ := HBK.out.cells
    have f0 := HBK.out.free 0
    have f1 := HBK.out.free 1
    have f2 := HBK.out.free 2
    have hszw : w.heap.size + 1 < wr.heap.size := (Array.getElem?_eq_some_iff.1 HBK.out).1
    have HLT := Lib.hid hszw
    clear hszw
    obtain ⟨o, n, c⟩ := x
    simp only at c0 c1 c2
    by_cases hkl : k < s.size
    · have hpart := part_of s k hkl
      have g1 : (0 : Int) ≤ (k : Int) := by omega
      have g2 : (k : Int) + 1 ≤ (s.size : Int) := by omega
      have g3 : (k : Int) ≤ (k : Int) + 1 := by omega
      have hwk : IntKind.i64.wrap ((k : Int) + 1) = (k : Int) + 1 := IntWalk.i64_in _ (by omega)
      have hnk : ((k : Int) + 1).toNat = k + 1 := by omega
      have HV := Lib.hid (vowAt_in s k hkl)
      have hl1 := bs_list n
      have HIV : Hid (Calls Tryd.prog 38 #[.string s, .int .i64 k] wr fun e w' => e = .returned (.bool (hasF (bAt s k) 0)) ∧ wr = w') := by
        have := specVow_any s k wr; rw [HV.out] at this; exact this
      by_cases hv : hasF (bAt s k) 0 = true
      · rw [hv] at HIV
        by_cases hn : n = []
        · have HN := Lib.hid (syT_vow_in hsy.out hv hn)
          subst hn
          go_wp2_with fail
          refine HIV.out.mono ?_
          rintro e w2 ⟨rfl, rfl⟩
          go_wp2
          go_roundw
          case rel =>
            exact ⟨k + 1, by omega, by go_num, l, ⟨o, [byA s k], c⟩, HN, by omega, own_set HO.out HNE.out _, HNE.out, HBK.out.set1 [byA s k], HBE.out.setCell (p := ⟨w.heap.size + 1, 1, none⟩) (by simp) _⟩
          case measure => simp [intOf]; omega
        · have hne : n.isEmpty = false := by cases n; exact absurd rfl hn; rfl
          have HN := Lib.hid (syT_vow_new hsy.out hv hn)
          go_wp2_with fail
          refine HIV.out.mono ?_
          rintro e w2 ⟨rfl, rfl⟩
          go_wp2_with (at_builtin; refine wpList_append_syl _ rfl (.tmp 41) (.tmp 43) rfl w.heap.size _ _ _ rfl HO.out ⟨o, n, c⟩ rfl (by omega) HBE.out.size ?_; intro v' w' hown' hb' hkeep; have hkk := hkeep (w.heap.size + 1) HLT.out HNE.out; have hbk' : InBlk w' (w.heap.size + 1) ⟨o, n, c⟩ := hkk.1.trans HBK.out; obtain ⟨e0, e1, e2⟩ := hbk'.cells; have q0 := hbk'.free 0; have q1 := hbk'.free 1; have q2 := hbk'.free 2; simp only at e0 e1 e2; have HOW := Lib.hid hown'; have HBB := Lib.hid (HBE.out.trans hb'); have HNB := Lib.hid hkk.2; have HKB := Lib.hid hbk'; clear hown' hb' hkeep hkk hbk')
          go_roundw
          case rel =>
            refine ⟨k + 1, by omega, by go_num, l ++ [⟨o, n, c⟩], ⟨[], [byA s k], []⟩, HN, by rw [List.length_append, List.length_singleton]; omega, ?_, HNB.out, (((HKB.out.set0 []).set1 []).set2 []).set1 [byA s k],
              (((HBB.out.setCell (p := ⟨w.heap.size + 1, 0, none⟩) (by simp) _).setCell (p := ⟨w.heap.size + 1, 1, none⟩) (by simp) _).setCell (p := ⟨w.heap.size + 1, 2, none⟩) (by simp) _).setCell (p := ⟨w.heap.size + 1, 1, none⟩) (by simp) _⟩
            rw [List.length_append, List.length_singleton]
            exact own_set (own_set (own_set (own_set HOW.out HNB.out _) HNB.out _) HNB.out _) HNB.out _
          case measure => simp [intOf]; omega
      · have hv : hasF (bAt s k) 0 = false := by simpa using hv
        rw [hv] at HIV
        have hinv := (sy_inv s k hk).join
        rw [hsy.out] at hinv
        have hlen := congrArg List.length hinv
        rw [List.length_append, List.length_take, sylB_len] at hlen
        simp only at hlen
        clear hinv
        by_cases hn : n = []
        · have HN := Lib.hid (syT_onset hsy.out hv hn)
          have addO : ∀ w : World, (Op.stringOp .add (bs o) (bs [byA s k])).run Tryd.prog w = .ok (.string (bs (o ++ [byA s k]))) w := fun w => by rw [run_string_add_sum _ _ _ (by rw [bs_size, bs_size, List.length_singleton]; omega), bs_add]
          subst hn
          go_wp2_with fail
          refine HIV.out.mono ?_
          rintro e w2 ⟨rfl, rfl⟩
          go_wp2
          go_roundw
          case rel =>
            exact ⟨k + 1, by omega, by go_num, l, ⟨o ++ [byA s k], [], c⟩, HN, by omega, own_set HO.out HNE.out _, HNE.out, HBK.out.set0 (o ++ [byA s k]), HBE.out.setCell (p := ⟨w.heap.size + 1, 0, none⟩) (by simp) _⟩
          case measure => simp [intOf]; omega
        · have hne : n.isEmpty = false := by cases n; exact absurd rfl hn; rfl
          have HNX : Hid (∀ W, Calls Tryd.prog 38 #[.string s, .int .i64 ((k : Int) + 1)] W fun e w' => e = .returned (.bool (vowAt s ((k : Int) + 1))) ∧ W = w') := fun W => specVow_any s _ W
          by_cases h1 : vowAt s ((k : Int) + 1) = true
          · have HN := Lib.hid (syT_next hsy.out hv hn h1)
            rw [h1] at HNX
            go_wp2_with fail
            refine HIV.out.mono ?_
            rintro e w2 ⟨rfl, rfl⟩
            go_wp2_with fail
            refine (HNX.out _).mono ?_
            rintro e w2 ⟨rfl, rfl⟩
            go_wp2_with (at_builtin; refine wpList_append_syl _ rfl (.tmp 62) (.tmp 64) rfl w.heap.size _ _ _ rfl HO.out ⟨o, n, c⟩ rfl (by omega) HBE.out.size ?_; intro v' w' hown' hb' hkeep; have hkk := hkeep (w.heap.size + 1) HLT.out HNE.out; have hbk' : InBlk w' (w.heap.size + 1) ⟨o, n, c⟩ := hkk.1.trans HBK.out; obtain ⟨e0, e1, e2⟩ := hbk'.cells; have q0 := hbk'.free 0; have q1 := hbk'.free 1; have q2 := hbk'.free 2; simp only at e0 e1 e2; have HOW := Lib.hid hown'; have HBB := Lib.hid (HBE.out.trans hb'); have HNB := Lib.hid hkk.2; have HKB := Lib.hid hbk'; clear hown' hb' hkeep hkk hbk')
            go_roundw
            case rel =>
              refine ⟨k + 1, by omega, by go_num, l ++ [⟨o, n, c⟩], ⟨[byA s k], [], []⟩, HN, by rw [List.length_append, List.length_singleton]; omega, ?_, HNB.out, ((HKB.out.set0 [byA s k]).set1 []).set2 [],
                ((HBB.out.setCell (p := ⟨w.heap.size + 1, 0, none⟩) (by simp) _).setCell (p := ⟨w.heap.size + 1, 1, none⟩) (by simp) _).setCell (p := ⟨w.heap.size + 1, 2, none⟩) (by simp) _⟩
              rw [List.length_append, List.length_singleton]
              exact own_set (own_set (own_set HOW.out HNB.out _) HNB.out _) HNB.out _
            case measure => simp [intOf]; omega
          · have h1 : vowAt s ((k : Int) + 1) = false := by simpa using h1
            have HN := Lib.hid (syT_coda hsy.out hv hn h1)
            rw [h1] at HNX
            have addC : ∀ w : World, (Op.stringOp .add (bs c) (bs [byA s k])).run Tryd.prog w = .ok (.string (bs (c ++ [byA s k]))) w := fun w => by rw [run_string_add_sum _ _ _ (by rw [bs_size, bs_size, List.length_singleton]; omega), bs_add]
            go_wp2_with fail
            refine HIV.out.mono ?_
            rintro e w2 ⟨rfl, rfl⟩
            go_wp2_with fail
            refine (HNX.out _).mono ?_
            rintro e w2 ⟨rfl, rfl⟩
            go_wp2
            go_roundw
            case rel =>
              exact ⟨k + 1, by omega, by go_num, l, ⟨o, n, c ++ [byA s k]⟩, HN, by omega, own_set HO.out HNE.out _, HNE.out, HBK.out.set2 (c ++ [byA s k]), HBE.out.setCell (p := ⟨w.heap.size + 1, 2, none⟩) (by simp) _⟩
            case measure => simp [intOf]; omega
    · obtain rfl : k = s.size := by omega
      go_wp2_with (at_builtin; refine wpList_append_syl _ rfl (.tmp 68) (.tmp 70) rfl w.heap.size _ _ _ rfl HO.out ⟨o, n, c⟩ rfl (by omega) HBE.out.size ?_; intro v' w' hown' hb' _)
      go_ret
      rw [hsy.out]
      exact ⟨_, rfl, by rw [List.length_append, List.length_singleton]; exact hown', HBE.out.trans hb'⟩
theorem specSyl_any (s : ByteArray) (w : World) (hs : s.size ≤ maxLen) :
    Calls Tryd.prog 24 #[.string s] w (SylPost (sylL s) w) := by
  by_cases hf : isFm s = true
  · by_cases hc : 0 < cntV s s.size
    · rw [sylL_in hf hc]; exact specSyl_in s w hf hc
    · have HE := Lib.hid (sylL_out (s := s) fun h => hc h.2)
      have HM := Lib.hid hs
      have hc0 : cntV s s.size = 0 := by omega
      go_enter Tryd.func24, Tryd.ntmps24
      go_wp2_with fail
      refine (specFm_any s _ HM.out).mono ?_
      rintro e w2 ⟨rfl, rfl⟩
      rw [hf]
      go_wp2_with fail
      refine (specCnt_any s _ HM.out).mono ?_
      rintro e w2 ⟨rfl, rfl⟩
      rw [hc0]
      go_wp2
      go_ret
      exact ⟨_, rfl, by rw [HE.out]; exact syl_empty w, (Below.refl _ _).alloc (Nat.le_refl _) _⟩
  · have HE := Lib.hid (sylL_out (s := s) fun h => hf h.1)
    have hf : isFm s = false := by simpa using hf
    have HM := Lib.hid hs
    go_enter Tryd.func24, Tryd.ntmps24
    go_wp2_with fail
    refine (specFm_any s _ HM.out).mono ?_
    rintro e w2 ⟨rfl, rfl⟩
    rw [hf]
    go_wp2
    go_ret
    exact ⟨_, rfl, by rw [HE.out]; exact syl_empty w, (Below.refl _ _).alloc (Nat.le_refl _) _⟩
end Go.Proofs.YtjajbkbocbodfaaDoor
