/- Merged: Vj10 Cc12 In10 Pf10 Mc2i Tm11 Ws12 Os12 Ik12. -/
import Derived.Test.YtkaihnlknncfdaaGreatDoorQ7
import Derived.Test.YtkaihnlknncfdaaGreatDoorQ8
import Derived.Test.YtkaihnlknncfdaaGreatDoorQ1
import Derived.Test.YtkaihnlknncfdaaGreatDoorRows
import Derived.WalkKit
import Derived.BigQuiet
import Derived.Lib.QuietBelow
import Derived.Test.YtkaihnlknncfdaaGreatDoorQ5
import Derived.Test.YtkaihnlknncfdaaGreatDoorQ6
import Derived.Test.YtkaihnlknncfdaaGreatDoorQ4
import Derived.Deep.RegionHeld3
import Derived.Deep.RegionWith
import Derived.Deep.DeepCutAuto
import Derived.Test.YtkaihnlknncfdaaGreatDoorQ2
/- The program's counts: method values, look-ups, what is called at each. -/
namespace Go.Proofs.YtkaihnlknncfdaaGreatDoor
set_option maxRecDepth 100000
open Go.RowKit M
set_option linter.unusedVariables false
set_option linter.unusedSimpArgs false

/-- A method value bound to a count of forms. -/
theorem ofOut_any (q : Nat) (n : Int) (x : DCandidate) (v : Value) (F : Addr → Prop) (w : World) (hl : x.Links.length ≤ 1048576) (hv : RowRd rLink false w v x.Links F)
    (he : ∀ args w', (callFunc q args).run Tryz.prog w' = .ok (.enter q args) w') (hC : ∀ W, Below w.heap.size w W → Calls Tryz.prog q #[.string (outT x.Links)] W fun e w' => e = .returned (.int .i64 n) ∧ Below W.heap.size W w') :
    Calls Tryz.prog 147 #[.func (.func q) #[] #[], .agg #[v]] w fun e w' => e = .returned (.int .i64 n) ∧ Below w.heap.size w w' := by
  have HS1 : Hid (∀ W, Below w.heap.size w W → Calls Tryz.prog 63 #[.agg #[v]] W fun e w' => e = .returned (.string (outT x.Links)) ∧ Below W.heap.size W w') := fun W hW => implOutput_any x _ F W hl (hv.kept hW)
  have HE := Lib.hid he
  have HC := Lib.hid hC
  obtain ⟨A, cap, rfl⟩ := hv.form
  clear hv he hC
  generalize outT x.Links = T at *
  have HA : Hid (∀ o, Below w.heap.size w (w.alloc o)) := fun o => (Below.refl _ _).alloc (Nat.le_refl _) _
  go_enter Tryz.func147, Tryz.ntmps147
  go_wp2_with fail
  refine (HS1.out _ (HA.out _)).mono ?_
  rintro e w2 ⟨rfl, hb⟩
  have HB : Hid (Below w.heap.size w w2) := below_step (HA.out _) hb
  clear hb
  go_wp2_with fail
  rw [HE.out, Oper.upon_enter]
  refine (HC.out _ HB.out).mono ?_
  rintro e w3 ⟨rfl, hb⟩
  have HB3 : Hid (Below w.heap.size w w3) := below_step HB.out hb
  clear hb
  go_wp2
  go_ret
  exact ⟨rfl, HB3.out⟩
/-- What is called at the j-th value. -/
def entF (j : Nat) : Nat := if j < 6 then 147 else cidN j
def entA (j : Nat) (v : Value) : Array Value := if j < 6 then #[.func (.func (cidN j)) #[] #[], .agg #[v]] else #[.agg #[v]]
theorem fnV_any (j : Nat) (hj : j < 10) (x : DCandidate) (A : Option Addr) (cap : Nat) (F : Addr → Prop) (w : World) (hl : x.Links.length ≤ 1048576) (hcap : x.Links.length ≤ cap) (hv : RowRd rLink false w (.slice A x.Links.length cap) x.Links F) (hT : FeatTab w) :
    Calls Tryz.prog (entF j) (entA j (.slice A x.Links.length cap)) w fun e w' => e = .returned (.int .i64 (cntN j x.Links)) ∧ Below w.heap.size w w' := by
  have hsz := outT_size x.Links
  have hmx : (outT x.Links).size ≤ maxLen := by unfold maxLen; omega
  obtain rfl | rfl | rfl | rfl | rfl | rfl | rfl | rfl | rfl | rfl : j = 0 ∨ j = 1 ∨ j = 2 ∨ j = 3 ∨ j = 4 ∨ j = 5 ∨ j = 6 ∨ j = 7 ∨ j = 8 ∨ j = 9 := by omega
  · exact ofOut_any 146 _ x _ F w hl hv (fun args w' => enters_of Tryz.func146 (by kernel_rfl) rfl args w') (fun W hW => implOns_any _ W hmx (feat_below hT hW))
  · exact ofOut_any 148 _ x _ F w hl hv (fun args w' => enters_of Tryz.func148 (by kernel_rfl) rfl args w') (fun W hW => implCod_any _ W hmx (feat_below hT hW))
  · exact ofOut_any 149 _ x _ F w hl hv (fun args w' => enters_of Tryz.func149 (by kernel_rfl) rfl args w') (fun W hW => implClu_any _ W hmx (feat_below hT hW))
  · exact ofOut_any 150 _ x _ F w hl hv (fun args w' => enters_of Tryz.func150 (by kernel_rfl) rfl args w') (fun W hW => implVoi_any _ W hmx (feat_below hT hW))
  · exact ofOut_any 151 _ x _ F w hl hv (fun args w' => enters_of Tryz.func151 (by kernel_rfl) rfl args w') (fun W hW => implFin_any _ W hmx (feat_below hT hW))
  · exact ofOut_any 152 _ x _ F w hl hv (fun args w' => enters_of Tryz.func152 (by kernel_rfl) rfl args w') (fun W hW => implNas_any _ W hmx (feat_below hT hW))
  · exact implDeleted_any x _ F w hl hv
  · exact implInserted_any x _ F w hl hv
  · exact implVoiceChanged_any x _ F w hl hv
  · exact implBreaks_any x A cap F w hl hcap hv
theorem Tryz.zeroFn (w : World) : (zeroValue 103).run Tryz.prog w = .ok .nilFunc w := by kernel_rfl
/-- What a look-up in the map gives. -/
theorem look_counts (w : World) (b : Nat) (nm : ByteArray) (hs : nm.size ≤ maxLen) (h : w.ownsMap Tryz.prog 9 fR b 10 (dputN 10)) :
    ∃ u, Sem.run Tryz.prog (Instr.lookup 126 (.map (some b)) (.string nm) true) w = .ok (.tuple #[u, .bool (decide (nix nm < 10))]) w ∧ (nix nm < 10 → u = fnV (nix nm)) := by
  obtain ⟨zd, zp, hz⟩ : ∃ zd zp, fR Value.nilFunc = some (zd, zp) := ⟨_, _, rfl⟩
  obtain ⟨u, ps, hrun, hR⟩ := h.look_ok Tryz.strKeyed Tryz.underlying126 (Tryz.zeroFn w) hz (WideMaps.keyOf_string_mk Tryz.underlying9 hs)
  have hd := dput_at nm zd 10 (Nat.le_refl _)
  have h2 := hd.2
  unfold klN at h2
  rw [h2] at hrun
  refine ⟨u, hrun, fun hlt => ?_⟩
  have h1 := hd.1
  rw [if_pos hlt] at h1
  unfold klN at h1
  have hR2 : fR u = some (codeN (nix nm), ps) := hR.trans (congrArg (fun d => some (d, ps)) h1)
  exact fR_inv hlt hR2
theorem look_plain (w : World) (b : Nat) (nm : ByteArray) (hs : nm.size ≤ maxLen) (h : w.ownsMap Tryz.prog 9 fR b 10 (dputN 10)) (hlt : nix nm < 10) :
    Sem.run Tryz.prog (Instr.lookup 126 (.map (some b)) (.string nm) false) w = .ok (fnV (nix nm)) w := by
  obtain ⟨zd, zp, hz⟩ : ∃ zd zp, fR Value.nilFunc = some (zd, zp) := ⟨_, _, rfl⟩
  obtain ⟨u, ps, hrun, hR⟩ := h.lookup Tryz.strKeyed Tryz.underlying126 (Tryz.zeroFn w) hz (WideMaps.keyOf_string_mk Tryz.underlying9 hs)
  have hd := dput_at nm zd 10 (Nat.le_refl _)
  have h1 := hd.1
  rw [if_pos hlt] at h1
  unfold klN at h1
  have hR2 : fR u = some (codeN (nix nm), ps) := hR.trans (congrArg (fun d => some (d, ps)) h1)
  rw [← fR_inv hlt hR2]
  exact hrun
end Go.Proofs.YtkaihnlknncfdaaGreatDoor

/- The program's isConstraintCount: what it answers. -/
namespace Go.Proofs.YtkaihnlknncfdaaGreatDoor
set_option maxRecDepth 100000
open Go.RowKit Go.Sort
set_option linter.unusedVariables false
set_option linter.unusedSimpArgs false

theorem cnt12_any (n : Int) (w : World) :
    Calls Tryz.prog 103 #[.int .i64 n] w fun e w' => e = .returned (.bool (decide (1 ≤ n) && decide (n ≤ 5))) ∧ w = w' := by
  go_enter Tryz.func103, Tryz.ntmps103
  go_wp2
  all_goals
    go_ret
    refine ⟨ret_bool ?_, rfl⟩
    simp_all <;> omega
theorem cnt12_no {n : Int} (h : ¬ (1 ≤ n ∧ n ≤ 5)) : (decide (1 ≤ n) && decide (n ≤ 5)) = false := by
  cases hb : (decide (1 ≤ n) && decide (n ≤ 5)) with
  | false => rfl
  | true => simp at hb; exact (h hb).elim
theorem cnt12_yes {n : Int} (h1 : 1 ≤ n) (h2 : n ≤ 5) : (decide (1 ≤ n) && decide (n ≤ 5)) = true := by simp [h1, h2]
end Go.Proofs.YtkaihnlknncfdaaGreatDoor

/- Names of constraints: the program's ConstraintNames, slices.Contains, IsMarkedness, AreConstraints: what they answer. -/
namespace Go.Proofs.YtkaihnlknncfdaaGreatDoor
set_option maxRecDepth 100000
open Go.RowKit Go.Sort M
set_option linter.unusedVariables false
set_option linter.unusedSimpArgs false

def idxB (l : List ByteArray) (x : ByteArray) : Int := if hasB l x then (l.findIdx fun y => decide (y = x) : Nat) else -1
theorem idxB_no {l : List ByteArray} {x : ByteArray} (h : ∀ (j : Nat) (y : ByteArray), l[j]? = some y → ¬ y = x) : idxB l x = -1 := by
  unfold idxB; rw [hasB_no h]; rfl
theorem idxB_yes {l : List ByteArray} {k : Nat} {x : ByteArray} (h : l[k]? = some x) (hf : ∀ (j : Nat) (y : ByteArray), j < k → l[j]? = some y → ¬ y = x) : idxB l x = k := by
  obtain ⟨hl, he⟩ := List.getElem?_eq_some_iff.1 h
  have h1 : (l.findIdx fun y => decide (y = x)) = k := by
    rw [List.findIdx_eq hl]
    exact ⟨by simp [he], fun j hj => by simpa using hf j _ hj (List.getElem?_eq_getElem (by omega))⟩
  unfold idxB; rw [if_pos (hasB_yes h), h1]
theorem hasB_idx (l : List ByteArray) (x : ByteArray) : hasB l x = decide (0 ≤ idxB l x) := by
  unfold idxB
  cases hasB l x
  · rfl
  · simp
theorem idxB_rng (l : List ByteArray) (x : ByteArray) : -1 ≤ idxB l x := by
  unfold idxB; split <;> omega
theorem areC_short {l : List ByteArray} (h : ¬ (1 ≤ l.length ∧ l.length ≤ 5)) : areC l = false := by
  cases hc : areC l with
  | false => rfl
  | true => exact (h (areC_len hc)).elim
theorem implNames_any (w : World) : Calls Tryz.prog 126 #[] w (NmPost w) := by
  go_enter Tryz.func126, Tryz.ntmps126
  go_wp2
  go_ret
  exact ⟨_, _, rfl, Nat.le_refl _, by omega, Nat.le_refl _, str_new w namesB 10 _ rfl rfl (by omega), (Below.refl _ _).alloc (Nat.le_refl _) _⟩
set_option maxHeartbeats 1000000 in
theorem indexS_any (m : Nat → ByteArray) (l : List ByteArray) (v : Value) (F : Addr → Prop) (x : ByteArray) (w : World) (hl : l.length ≤ 1000000000) (hv : RowRd (Rep.str m) false w v l F) :
    Calls Tryz.prog 107 #[v, .string x] w fun e w' => e = .returned (.int .i64 (idxB l x)) ∧ w = w' := by
  obtain ⟨A, cap, rfl⟩ := hv.form
  have HV := Lib.hid hv
  clear hv
  have HX : Hid (∀ k, k < l.length → ∃ y, l[k]? = some y) := fun k hk => ⟨_, List.getElem?_eq_getElem hk⟩
  go_enter Tryz.func107, Tryz.ntmps107
  go_wp2
  go_loop [8] (fun i => ∃ (k : Nat), k ≤ l.length ∧ i = .int .i64 k ∧ Hid (∀ (j : Nat) (y : ByteArray), j < k → l[j]? = some y → ¬ y = x)) (fun i => l.length - (intOf i).toNat)
  case atStart => exact ⟨0, by omega, rfl, fun j y hj => by omega⟩
  case round =>
    obtain ⟨k, hk, rfl, hall⟩ := hrel
    by_cases hkl : k < l.length
    · obtain ⟨y, hy⟩ := HX.out k hkl
      obtain ⟨g, off, xs, Fk, rfl, _, hra, _, hca⟩ := HV.out.get hy
      obtain ⟨rfl, _⟩ := hra
      rw [show (Rep.str m).size = 1 from rfl] at hca
      have c0 := hca 0 _ rfl
      simp only [Nat.add_zero, Nat.mul_one] at c0
      clear hca
      have HY := Lib.hid hy
      clear hy
      go_wp2
      · have hq : (x.toList == y.toList) = true := by assumption
        have he : y = x := by
          rw [beq_iff_eq] at hq
          exact (toList_inj10 hq).symm
        have HN : Hid (idxB l x = k) := idxB_yes (he ▸ HY.out) hall.out
        go_ret
        exact ⟨by rw [HN.out]; rfl, rfl⟩
      · rename_i hq
        have he : ¬ y = x := fun e => by rw [e] at hq; simp at hq
        go_round
        case rel =>
          refine ⟨k + 1, by omega, by go_num, fun j z hj hz => ?_⟩
          by_cases e : j = k
          · subst e; rw [HY.out] at hz; cases hz; exact he
          · exact hall.out j z (by omega) hz
        case measure => simp [intOf]; omega
    · obtain rfl : k = l.length := by omega
      have HN : Hid (idxB l x = -1) := idxB_no fun j y hj => hall.out j y (List.getElem?_eq_some_iff.1 hj).1 hj
      clear hall
      go_wp2
      go_ret
      exact ⟨by rw [HN.out]; rfl, rfl⟩
theorem contains_any (m : Nat → ByteArray) (l : List ByteArray) (v : Value) (F : Addr → Prop) (x : ByteArray) (w : World) (hl : l.length ≤ 1000000000) (hv : RowRd (Rep.str m) false w v l F) :
    Calls Tryz.prog 64 #[v, .string x] w fun e w' => e = .returned (.bool (hasB l x)) ∧ w = w' := by
  have HC := Lib.hid (indexS_any m l v F x w hl hv)
  clear hv
  rw [hasB_idx]
  generalize idxB l x = i at *
  go_enter Tryz.func64, Tryz.ntmps64
  go_wp2_with fail
  refine HC.out.mono ?_
  rintro e w1 ⟨rfl, rfl⟩
  go_wp2
  go_ret
  exact ⟨rfl, rfl⟩
theorem specHead (m : Nat → ByteArray) (l : List ByteArray) (g off cap : Nat) (F : Addr → Prop) (y : ByteArray) (w : World) (k : Nat) (hk : k ≤ l.length) (hl : l.length ≤ 1000000000) (hv : RowRd (Rep.str m) false w (.slice (some ⟨g, off, none⟩) l.length cap) l F) :
    Calls Tryz.prog 64 #[.slice (some ⟨g, off, none⟩) k cap, .string y] w fun e w' => e = .returned (.bool (hasB (l.take k) y)) ∧ w = w' :=
  contains_any m (l.take k) (.slice (some ⟨g, off, none⟩) k cap) F y w (by rw [List.length_take]; omega) (hv.head k cap hk (by have := hv.cap_le; omega))
set_option maxHeartbeats 2000000 in
theorem implAre_any (m : Nat → ByteArray) (l : List ByteArray) (A : Option Addr) (cap : Nat) (F : Addr → Prop) (w : World) (hl : l.length ≤ 1000000000) (hcap : l.length ≤ cap) (hv : RowRd (Rep.str m) false w (.slice A l.length cap) l F) :
    Calls Tryz.prog 79 #[.slice A l.length cap] w fun e w' => e = .returned (.bool (areC l)) ∧ Below w.heap.size w w' := by
  have HV := Lib.hid hv
  clear hv
  have HX : Hid (∀ k, k < l.length → ∃ y, l[k]? = some y) := fun k hk => ⟨_, List.getElem?_eq_getElem hk⟩
  by_cases h1 : (l.length : Int) < 1
  · have HF : Hid (areC l = false) := areC_short (by omega)
    have HI : Hid (Calls Tryz.prog 103 #[.int .i64 (l.length : Int)] w fun e w' => e = .returned (.bool false) ∧ w = w') := by
      have h := cnt12_any (l.length : Int) w
      rw [cnt12_no (by omega)] at h
      exact h
    go_enter Tryz.func79, Tryz.ntmps79
    go_wp2_with fail
    refine HI.out.mono ?_
    rintro e wi ⟨rfl, rfl⟩
    go_wp2
    go_ret
    exact ⟨by rw [HF.out]; rfl, Below.refl _ _⟩
  by_cases h5 : (5 : Int) < (l.length : Int)
  · have HF : Hid (areC l = false) := areC_short (by omega)
    have HI : Hid (Calls Tryz.prog 103 #[.int .i64 (l.length : Int)] w fun e w' => e = .returned (.bool false) ∧ w = w') := by
      have h := cnt12_any (l.length : Int) w
      rw [cnt12_no (by omega)] at h
      exact h
    go_enter Tryz.func79, Tryz.ntmps79
    go_wp2_with fail
    refine HI.out.mono ?_
    rintro e wi ⟨rfl, rfl⟩
    go_wp2
    go_ret
    exact ⟨by rw [HF.out]; rfl, Below.refl _ _⟩
  have HI : Hid (Calls Tryz.prog 103 #[.int .i64 (l.length : Int)] w fun e w' => e = .returned (.bool true) ∧ w = w') := by
    have h := cnt12_any (l.length : Int) w
    rw [cnt12_yes (by omega) (by omega)] at h
    exact h
  go_enter Tryz.func79, Tryz.ntmps79
  go_wp2_with fail
  refine HI.out.mono ?_
  rintro e wi ⟨rfl, rfl⟩
  go_wp2_with fail
  refine (implNames_any _).mono ?_
  rintro e w2 ⟨g0, cap0, rfl, hc1, hc2, hg0, hown, hb⟩
  have HK := Lib.hid ((RowRd.of_strs m hown (by decide) names_short).weak)
  have HV2 := Lib.hid (HV.out.kept hb)
  have HB := Lib.hid hb
  clear hb hown HV
  go_wp2_with fail
  go_loop [13] (fun i => ∃ (k : Nat), k ≤ l.length ∧ i = .int .i64 k ∧ Hid (∀ (j : Nat) (y : ByteArray), j < k → l[j]? = some y → hasB namesB y = true ∧ hasB (l.take j) y = false)) (fun i => l.length - (intOf i).toNat)
  case atStart => exact ⟨0, by omega, rfl, fun j y hj => by omega⟩
  case round =>
    obtain ⟨k, hk, rfl, hall⟩ := hrel
    by_cases hkl : k < l.length
    · obtain ⟨y, hy⟩ := HX.out k hkl
      obtain ⟨g, off, xs, Fk, rfl, _, hra, _, hca⟩ := HV2.out.get hy
      obtain ⟨rfl, _⟩ := hra
      rw [show (Rep.str m).size = 1 from rfl] at hca
      have c0 := hca 0 _ rfl
      simp only [Nat.add_zero, Nat.mul_one] at c0
      clear hca
      have HY := Lib.hid hy
      clear hy
      have hkc : (k : Int) ≤ (cap : Int) := by omega
      have HH2 := Lib.hid (specHead m l g off cap F y w2 k (by omega) hl HV2.out)
      have HN : Hid (∀ b c, hasB namesB y = b → hasB (l.take k) y = c → (b = false ∨ c = true) → areC l = false) := fun b c h1 h2 h => areC_bad HY.out (h.elim (fun h => .inl (h1.trans h)) (fun h => .inr (h2.trans h)))
      have HG : Hid (∀ b c, hasB namesB y = b → hasB (l.take k) y = c → b = true → c = false → ∀ (j : Nat) (z : ByteArray), j < k + 1 → l[j]? = some z → hasB namesB z = true ∧ hasB (l.take j) z = false) := fun b c h1 h2 hb hc j z hj hz => by
        by_cases e : j = k
        · subst e; rw [HY.out] at hz; cases hz; exact ⟨h1.trans hb, h2.trans hc⟩
        · exact hall.out j z (by omega) hz
      have HH1 := Lib.hid (contains_any m namesB _ _ y w2 (by decide) HK.out)
      generalize hB : hasB namesB y = bn at *
      generalize hC : hasB (l.take k) y = bt at *
      have HN2 := Lib.hid (HN.out _ _ rfl rfl)
      have HG2 := Lib.hid (HG.out _ _ rfl rfl)
      clear HN HG hall hB hC
      go_wp2_with fail
      refine HH1.out.mono ?_
      rintro e w3 ⟨rfl, rfl⟩
      cases bn
      · have HF := Lib.hid (HN2.out (.inl (by first | rfl | trivial)))
        go_wp2
        go_ret
        exact ⟨by rw [HF.out]; rfl, HB.out⟩
      · go_wp2_with fail
        refine HH2.out.mono ?_
        rintro e w3 ⟨rfl, rfl⟩
        cases bt
        · have HNX := Lib.hid (HG2.out (by first | rfl | trivial) (by first | rfl | trivial))
          go_wp2
          go_round
          case rel => exact ⟨k + 1, by omega, by go_num, HNX.out⟩
          case measure => simp [intOf]; omega
        · have HF := Lib.hid (HN2.out (.inr (by first | rfl | trivial)))
          go_wp2
          go_ret
          exact ⟨by rw [HF.out]; rfl, HB.out⟩
    · obtain rfl : k = l.length := by omega
      have HN : Hid (areC l = true) := by
        unfold Hid
        rw [areC_good fun j y hj => hall.out j y (List.getElem?_eq_some_iff.1 hj).1 hj]
        simp; omega
      clear hall
      go_wp2
      go_ret
      exact ⟨by rw [HN.out]; rfl, HB.out⟩
end Go.Proofs.YtkaihnlknncfdaaGreatDoor

/- ProfileOf of both: what it answers. -/
namespace Go.Proofs.YtkaihnlknncfdaaGreatDoor
set_option maxRecDepth 100000
open Go.RowKit Go.Sort M
set_option linter.unusedVariables false
set_option linter.unusedSimpArgs false

theorem step_append_int {ops : Array Oper} {o : Oper} {a : Act} {K : Act → World → Prop} {Q : Exit → Act → World → Prop} {E : Prop} (w : World) (hgd : o.guard = none) (s x : Operand)
    (ho : o.op = .call { callee := .builtin .append, args := #[s, x], argTypes := #[27, 27] })
    (base : Nat) (v : Value) (n : Nat) (l : List Int) (hs : a.eval s = v) (hown : w.ownsRow base 3 1 v n (cellsI l)) (b : Int)
    (hx : a.eval x = .slice (some ⟨w.heap.size, 0, none⟩) 1 1) (hn : n ≤ 1000000000) (hbase : base ≤ w.heap.size)
    (h : ∀ v' w', w'.ownsRow base 3 1 v' (n + 1) (cellsI (l ++ [b])) → Below base w w' → K (a.put o.dst v') w') :
    if Region.wanted o (yielded ops a.tmps) = true then Oper.wp Tryz.prog o a (w.alloc (.cells #[.int .i64 b] 3)) K Q else E := by
  have hw : Region.wanted o (yielded ops a.tmps) = true := by simp [Region.wanted, hgd]
  rw [if_pos hw]
  obtain ⟨i0, hi, hz0, hz1, hz2⟩ := info_parts Tryz.info3i
  refine wp_append_own (w.alloc (.cells #[.int .i64 b] 3)) s x 27 ho base 3 i0 (.int .i64 0) 1 8 Tryz.underlying27 hi hz0 hz1 hz2 rfl (by decide) v n (cellsI l) hs (hown.alloc _) ⟨w.heap.size, 0, none⟩ 1 1 [.int .i64 b] hx rfl (cell_one_new _ _ _)
    (fun u hu => by simp at hu; subst hu; rfl) (by unfold maxLen; omega) (by omega) (by simp; omega) ?_
  intro v' w' h1 h2 _
  refine h v' w' (by rw [cellsI_append]; exact h1) ?_
  exact ((Below.refl base w).alloc hbase _).grown h2 (by simp; omega) (fun q hq => (hown.lt q hq).1)
theorem vioN_i64 (x : ByteArray) (l : List DLink) (hl : l.length ≤ 1048576) : I64 (vioN x l) := by
  have h1 : ∀ P Q, mkC P Q (outT l) ≤ 9 := fun P Q => mkC_le P Q _
  have h2 : ∀ p : DLink → Bool, cntC p l ≤ l.length := fun p => by
    unfold cntC; split
    · exact List.countP_le_length
    · omega
  have h3 : brkC l ≤ l.length := by
    unfold brkC; split
    · unfold brkL insideL
      refine Nat.le_trans List.countP_le_length ?_
      rw [List.length_drop, List.length_take]
      omega
    · omega
  unfold vioN
  split
  · have hn := nix_le x
    unfold cntN I64
    split
    · have := h1 nconsB vowB; omega
    · have := h1 consB nvowB; omega
    · have := h1 consB consB; omega
    · have := h1 anyB vobB; omega
    · have := h1 vobB edgB; omega
    · have := h1 nasB vlsB; omega
    · have := h2 delK; omega
    · have := h2 insK; omega
    · have := h2 vchK; omega
    · omega
    · omega
  · unfold I64; omega
theorem own_keptI10 {w w' : World} {base : Nat} {e : TypeId} {size : Nat} {v : Value} {n : Nat} {xs : List Value} (hb : Below w.heap.size w w') (h : w.ownsRow base e size v n xs) : w'.ownsRow base e size v n xs := own_kept hb h
/-- A row of numbers of the call's own. -/
def IntPost (l : List Int) (w : World) (e : Ending) (w' : World) : Prop := ∃ v, e = .returned v ∧ RowRd Rep.int true w' v l (fun a => w.heap.size ≤ a.block) ∧ Below w.heap.size w w'
theorem ints_i64 (ns : List ByteArray) (l : List DLink) (k : Nat) (hl : l.length ≤ 1048576) : ∀ z ∈ profTo ns l k, I64 z := by
  intro z hz
  unfold profTo at hz
  rw [List.mem_map] at hz
  obtain ⟨x, _, rfl⟩ := hz
  exact vioN_i64 x l hl
theorem cellsI_N (l : List Int) : cellsI l = cellsN l := rfl
theorem own_form3 {w : World} {base n : Nat} {e z : Nat} {u : Value} {c : List Value} (h : w.ownsRow base e z u n c) : ∃ A cap, u = .slice A n cap := by
  rcases h.2 with ⟨rfl, hn⟩ | ⟨g, cap, cur, rfl, _⟩
  · exact ⟨none, 0, by rw [hn]⟩
  · exact ⟨_, _, rfl⟩
set_option maxHeartbeats 8000000 in
theorem specProf_any (m : Nat → ByteArray) (ns : List ByteArray) (A : Option Addr) (cap : Nat) (F : Addr → Prop) (x : DCandidate) (v : Value) (G : Addr → Prop) (w : World) (hn : ns.length ≤ 1048576) (hl : x.Links.length ≤ 1048576) (hcap : ns.length ≤ cap) (hns : RowRd (Rep.str m) false w (.slice A ns.length cap) ns F) (hv : RowRd rLink false w v x.Links G) :
    Calls Tryz.prog 34 #[.slice A ns.length cap, .agg #[v]] w (IntPost (profN ns x.Links) w) := by
  have HS0 : Hid (∀ W, Below w.heap.size w W → Calls Tryz.prog 76 #[.agg #[v]] W fun e w' => e = .returned (.bool (isCd x.Links)) ∧ Below W.heap.size W w') := fun W hW => specIsCd_any x _ G W hl (hv.kept hW)
  have HSA : Hid (∀ W, Below w.heap.size w W → Calls Tryz.prog 75 #[.slice A ns.length cap] W fun e w' => e = .returned (.bool (areC ns)) ∧ Below W.heap.size W w') := fun W hW => specAre_any m ns A cap F W (by omega) hcap (hns.kept hW)
  have HSV : Hid (∀ nm W, Below w.heap.size w W → Calls Tryz.prog 77 #[.string nm, .agg #[v]] W fun e w' => e = .returned (.int .i64 (vioN nm x.Links)) ∧ Below W.heap.size W w') := fun nm W hW => specVio_any nm x _ G W hl (hv.kept hW)
  have HX : Hid (∀ k, k < ns.length → ∃ y, ns[k]? = some y) := fun k hk => ⟨_, List.getElem?_eq_getElem hk⟩
  have HNS := Lib.hid hns
  have HNO : Hid (areC ns = false ∨ isCd x.Links = false → profN ns x.Links = []) := profN_no
  have HYE : Hid (areC ns = true → isCd x.Links = true → profN ns x.Links = profTo ns x.Links ns.length) := profN_yes
  have HI := Lib.hid (ints_i64 ns x.Links ns.length hl)
  have HP : Hid (∀ u w', RowRd Rep.int true w' u (profN ns x.Links) (fun a => w.heap.size ≤ a.block) → Below w.heap.size w w' → IntPost (profN ns x.Links) w (.returned u) w') := fun u w' h1 h2 => ⟨u, rfl, h1, h2⟩
  obtain ⟨B, q, rfl⟩ := hv.form
  clear hv hns
  generalize isCd x.Links = c at *
  have HA : Hid (∀ o, Below w.heap.size w (w.alloc o)) := fun o => (Below.refl _ _).alloc (Nat.le_refl _) _
  have HA1 : Hid (InC ((w.alloc (.cells #[.slice B x.Links.length q] 55)).alloc (.cells #[] 3)) w.heap.size #[.slice B x.Links.length q] 55) := (heap_alloc_old _ _ (by simp)).trans (heap_alloc_new _ _)
  have HO0 : Hid (((w.alloc (.cells #[.slice B x.Links.length q] 55)).alloc (.cells #[] 3)).ownsRow (w.heap.size + 1) 3 1 (.slice (some ⟨w.heap.size + 1, 0, none⟩) 0 0) 0 (cellsI [])) := ⟨rfl, Or.inr ⟨w.heap.size + 1, 0, #[], rfl, Nat.le_refl _, by rw [show w.heap.size + 1 = (w.alloc (.cells #[.slice B x.Links.length q] 55)).heap.size by simp]; exact heap_alloc_new _ _, Nat.le_refl _, by unfold maxLen; omega, rfl, rfl⟩⟩
  have HB0 : Hid (Below w.heap.size w ((w.alloc (.cells #[.slice B x.Links.length q] 55)).alloc (.cells #[] 3))) := ((Below.refl _ _).alloc (Nat.le_refl _) _).alloc (by simp) _
  have HS1 : Hid (w.heap.size + 1 ≤ ((w.alloc (.cells #[.slice B x.Links.length q] 55)).alloc (.cells #[] 3)).heap.size) := by unfold Hid; simp
  go_enter Tryz.func34, Tryz.ntmps34
  go_wp2
  go_loopw [5, 6] (fun u i wr => ∃ (k : Nat), k ≤ ns.length ∧ i = .int .i64 k ∧ wr.ownsRow (w.heap.size + 1) 3 1 u k (cellsI (profTo ns x.Links k)) ∧ InC wr w.heap.size #[.slice B x.Links.length q] 55 ∧ (0 < k → areC ns = true ∧ c = true) ∧ w.heap.size + 1 ≤ wr.heap.size ∧ Below w.heap.size w wr) (fun _ i _ => ns.length - (intOf i).toNat)
  case atStart => exact ⟨0, by omega, rfl, HO0.out, HA1.out, fun h => by omega, HS1.out, HB0.out⟩
  case round =>
    obtain ⟨k, hk, rfl, hown, hbox, hpos, hsz, hbe⟩ := hrel
    have HW := Lib.hid hown
    have HBX := Lib.hid hbox
    have HPO := Lib.hid hpos
    have HBE := Lib.hid hbe
    obtain ⟨w2, rfl⟩ : ∃ w2 : World, w2 = wr := ⟨_, rfl⟩
    obtain ⟨A3, cap3, rfl⟩ := own_form3 hown
    clear hown hbox hpos hbe
    by_cases hkl : k < ns.length
    · obtain ⟨y, hy⟩ := HX.out k hkl
      have HST := Lib.hid (profTo_step (l := x.Links) hy)
      have HY := Lib.hid hy
      clear hy
      go_wp2_with fail
      refine (HSA.out _ HBE.out).mono ?_
      rintro e w3 ⟨rfl, hb⟩
      have HB3 : Hid (Below w.heap.size w w3) := below_step HBE.out hb
      have HW3 := Lib.hid (own_kept hb HW.out)
      have HBX3 := Lib.hid (HBX.out.kept hb)
      have b3 := HBX3.out.cell 0 rfl
      have hsz3 := Nat.le_trans hsz hb.size
      clear hb HW HBX
      cases ha : areC ns with
      | false =>
        have HK : Hid (k = 0) := by unfold Hid; rcases Nat.eq_zero_or_pos k with h | h
                                    · exact h
                                    · rw [(HPO.out h).1] at ha; cases ha
        have HN := Lib.hid (HNO.out (.inl ha))
        go_wp2_with fail
        go_ret
        refine HP.out _ _ ?_ HB3.out
        rw [HN.out]
        have h4 := HW3.out
        rw [HK.out] at h4 ⊢
        exact ((RowRd.of_ints (l := []) h4 (by simp) (by simp)).mono (fun a ha => by omega))
      | true =>
        go_wp2_with fail
        refine (HS0.out _ HB3.out).mono ?_
        rintro e w4 ⟨rfl, hb⟩
        have HB4 : Hid (Below w.heap.size w w4) := below_step HB3.out hb
        have HW4 := Lib.hid (own_kept hb HW3.out)
        have HBX4 := Lib.hid (HBX3.out.kept hb)
        have hsz4 := Nat.le_trans hsz3 hb.size
        clear hb HW3 HBX3 b3
        cases c with
        | false =>
          have HK : Hid (k = 0) := by unfold Hid; rcases Nat.eq_zero_or_pos k with h | h
                                      · exact h
                                      · cases (HPO.out h).2
          have HN := Lib.hid (HNO.out (.inr rfl))
          go_wp2_with fail
          go_ret
          refine HP.out _ _ ?_ HB4.out
          rw [HN.out]
          have h4 := HW4.out
          rw [HK.out] at h4 ⊢
          exact ((RowRd.of_ints (l := []) h4 (by simp) (by simp)).mono (fun a ha => by omega))
        | true =>
          obtain ⟨g, off, xs, Fk, rfl, _, hra, _, hca⟩ := (HNS.out.kept HB4.out).get HY.out
          obtain ⟨rfl, _⟩ := hra
          rw [show (Rep.str m).size = 1 from rfl] at hca
          have c0 := hca 0 _ rfl
          simp only [Nat.add_zero, Nat.mul_one] at c0
          clear hca
          have HCE : Hid (∀ W : World, Below w4.heap.size w4 W → W.cell? ⟨g, off + k, none⟩ = some (.string y)) := fun W hW => cell_kept hW c0
          have HCB : Hid (∀ W : World, Below w4.heap.size w4 W → W.cell? ⟨w.heap.size, 0, none⟩ = some (.slice B x.Links.length q)) := fun W hW => (HBX4.out.kept hW).cell 0 rfl
          have hgs : g < w4.heap.size := block_lt_of_cell c0
          clear c0
          have hnk : k ≤ 1000000000 := by omega
          have hNS2 : ∀ W : World, Below w.heap.size w W → W.cell? ⟨g, off + k, none⟩ = some (.string y) := fun W hW => by
            obtain ⟨g2, off2, xs2, Fk2, he2, _, hra2, _, hca2⟩ := (HNS.out.kept hW).get HY.out
            cases he2
            obtain ⟨rfl, _⟩ := hra2
            have c1 := hca2 0 _ rfl
            simpa [show (Rep.str m).size = 1 from rfl] using c1
          go_upto_region 5 with fail
          refine wp_region_held_drew (S := fun w' => w'.cell? ⟨g, off + k, none⟩ = some (.string y) ∧ w'.cell? ⟨w.heap.size, 0, none⟩ = some (.slice B x.Links.length q)) (by kernel_rfl) ⟨HCE.out _ ((Below.refl _ _).drew), HCB.out _ ((Below.refl _ _).drew)⟩ (fun hHeld => ?_)
          refine' wpAnyH_take (i := 0) (oi := _) (v := ?v1) rfl ?hs1 ?hf1 ?hr1 ?hQ1 (Or.inl ⟨?hw1, ?hy1⟩) hHeld ?rest1
          case hs1 => kernel_rfl
          case hf1 => kernel_rfl
          case hr1 => kernel_rfl
          case hQ1 => exact fun _ _ _ h => h
          case hw1 => kernel_rfl
          case hy1 => (intro w' hw'; go_simp; try with_reducible rfl)
          (try change wpAnyH _ _ _ _ _ _ _ (Act.put _ (some 22) _) _)
          try simp only [Act.put, List.setIfInBounds_toArray, List.set_cons_zero, List.set_cons_succ]
          refine' wpAnyH_take (i := 1) (oi := _) (v := ?v2) rfl ?hs2 ?hf2 ?hr2 ?hQ2 (Or.inl ⟨?hw2, ?hy2⟩) hHeld ?rest2
          case hs2 => kernel_rfl
          case hf2 => kernel_rfl
          case hr2 => kernel_rfl
          case hQ2 => exact fun _ _ _ h => h
          case hw2 => kernel_rfl
          case hy2 => (intro w' hw'; go_simp; try with_reducible rfl)
          (try change wpAnyH _ _ _ _ _ _ _ (Act.put _ (some 23) _) _)
          try simp only [Act.put, List.setIfInBounds_toArray, List.set_cons_zero, List.set_cons_succ]
          refine' wpAnyH_take (i := 2) (oi := _) (v := ?v3) rfl ?hs3 ?hf3 ?hr3 ?hQ3 (Or.inl ⟨?hw3, ?hy3⟩) hHeld ?rest3
          case hs3 => kernel_rfl
          case hf3 => kernel_rfl
          case hr3 => kernel_rfl
          case hQ3 => exact fun _ _ _ h => h
          case hw3 => kernel_rfl
          case hy3 => (intro w' hw'; go_simp; try with_reducible rfl)
          (try change wpAnyH _ _ _ _ _ _ _ (Act.put _ (some 24) _) _)
          try simp only [Act.put, List.setIfInBounds_toArray, List.set_cons_zero, List.set_cons_succ]
          refine' wpAnyH_take (i := 3) (oi := _) (v := ?v4) rfl ?hs4 ?hf4 ?hr4 ?hQ4 (Or.inl ⟨?hw4, ?hy4⟩) hHeld ?rest4
          case hs4 => kernel_rfl
          case hf4 => kernel_rfl
          case hr4 => kernel_rfl
          case hQ4 => exact fun _ _ _ h => h
          case hw4 => kernel_rfl
          case hy4 => (intro w' hw'; go_simp; try with_reducible rfl)
          (try change wpAnyH _ _ _ _ _ _ _ (Act.put _ (some 25) _) _)
          try simp only [Act.put, List.setIfInBounds_toArray, List.set_cons_zero, List.set_cons_succ]
          refine' wpAnyH_take (i := 4) (oi := _) (v := ?v5) rfl ?hs5 ?hf5 ?hr5 ?hQ5 (Or.inl ⟨?hw5, ?hy5⟩) hHeld ?rest5
          case hs5 => kernel_rfl
          case hf5 => kernel_rfl
          case hr5 => kernel_rfl
          case hQ5 => exact fun _ _ _ h => h
          case hw5 => kernel_rfl
          case hy5 => (intro w' hw'; have cA := hw'.1; have cB := hw'.2; clear hw'; go_simp; try with_reducible rfl)
          (try change wpAnyH _ _ _ _ _ _ _ (Act.put _ (some 26) _) _)
          try simp only [Act.put, List.setIfInBounds_toArray, List.set_cons_zero, List.set_cons_succ]
          refine' wpAnyH_take (i := 5) (oi := _) (v := ?v6) rfl ?hs6 ?hf6 ?hr6 ?hQ6 (Or.inl ⟨?hw6, ?hy6⟩) hHeld ?rest6
          case hs6 => kernel_rfl
          case hf6 => kernel_rfl
          case hr6 => kernel_rfl
          case hQ6 => exact fun _ _ _ h => h
          case hw6 => kernel_rfl
          case hy6 => (intro w' hw'; have cA := hw'.1; have cB := hw'.2; clear hw'; go_simp; try with_reducible rfl)
          (try change wpAnyH _ _ _ _ _ _ _ (Act.put _ (some 27) _) _)
          try simp only [Act.put, List.setIfInBounds_toArray, List.set_cons_zero, List.set_cons_succ]
          refine wpAnyH_ready (rs := [6]) (by kernel_rfl) (by simp) ?_
          refine AllReadyH.cons rfl (fun K hK => ?_) AllReadyH.nil
          go_simp
          go_at_call 77
          refine (HSV.out y _ HB4.out.drew).mono ?_
          rintro e w5 ⟨rfl, hb5⟩
          have hb45 : Below w4.heap.size w4 w5 := below_step ((Below.refl _ _).drew) hb5
          have HB5 := Lib.hid (HB4.out.trans (hb45.mono HB4.out.size))
          have HW5 := Lib.hid (own_kept hb45 HW4.out)
          have HBX5 := Lib.hid (HBX4.out.kept hb45)
          have hsz5 := Nat.le_trans hsz4 hb45.size
          clear hb5
          (try go_wp2_with fail)
          refine hK.out _ _ ⟨HCE.out _ hb45, HCB.out _ hb45⟩ (fun hHeld => ?_)
          clear hK K
          try simp only [Act.put, List.setIfInBounds_toArray, List.set_cons_zero, List.set_cons_succ]
          refine wpAnyH_ready (rs := [7]) (by kernel_rfl) (by simp) ?_
          refine AllReadyH.cons rfl (fun K hK => ?_) AllReadyH.nil
          go_simp
          refine hK.out _ _ ⟨HCE.out _ (hb45.alloc hb45.size _), HCB.out _ (hb45.alloc hb45.size _)⟩ (fun hHeld => ?_)
          clear hK K
          try simp only [Act.put, List.setIfInBounds_toArray, List.set_cons_zero, List.set_cons_succ]
          refine wpAnyH_ready (rs := [8]) (by kernel_rfl) (by simp) ?_
          refine AllReadyH.cons rfl (fun K hK => ?_) AllReadyH.nil
          refine step_append_int w5 rfl (.tmp 22) (.tmp 29) rfl (w.heap.size + 1) _ k (profTo ns x.Links k) (by simp [Act.eval]) HW5.out (vioN y x.Links) (by simp [Act.eval]) hnk hsz5 ?_
          intro v6 w6 hown6 hb6
          have HW6 := Lib.hid hown6
          have HB6 := Lib.hid (HB5.out.trans (hb6.mono (by omega)))
          have HBX6 : Hid (InC w6 w.heap.size #[.slice B x.Links.length q] 55) := (hb6.block _ (by omega)).trans HBX5.out
          have hsz6 := Nat.le_trans hsz5 hb6.size
          clear hown6 hb6
          refine hK.out _ _ ⟨(hNS2 w6 HB6.out), HBX6.out.cell 0 rfl⟩ (fun hHeld => ?_)
          clear hK K
          try simp only [Act.put, List.setIfInBounds_toArray, List.set_cons_zero, List.set_cons_succ]
          refine' wpAnyH_take (i := 9) (oi := _) (v := ?v7) rfl ?hs7 ?hf7 ?hr7 ?hQ7 (Or.inl ⟨?hw7, ?hy7⟩) hHeld ?rest7
          case hs7 => kernel_rfl
          case hf7 => kernel_rfl
          case hr7 => kernel_rfl
          case hQ7 => exact fun _ _ _ h => h
          case hw7 => kernel_rfl
          case hy7 => (intro w' hw'; go_simp; try with_reducible rfl)
          (try change wpAnyH _ _ _ _ _ _ _ (Act.put _ (some 5) _) _)
          try simp only [Act.put, List.setIfInBounds_toArray, List.set_cons_zero, List.set_cons_succ]
          refine wpAnyH_done ?hdone ?hq _
          case hdone => kernel_rfl
          go_wp2
          go_roundw
          case rel => exact ⟨k + 1, by omega, by go_num, by rw [HST.out]; exact HW6.out, HBX6.out, fun _ => ⟨ha, by first | rfl | trivial⟩, hsz6, HB6.out⟩
          case measure => simp [intOf]; omega
    · obtain rfl : k = ns.length := by omega
      have HN : Hid (profN ns x.Links = profTo ns x.Links ns.length) := by
        unfold Hid
        rcases Nat.eq_zero_or_pos ns.length with h | h
        · have ha : areC ns = false := by
            cases h2 : areC ns with
            | false => rfl
            | true => have := (areC_len h2).1; omega
          rw [HNO.out (.inl ha), h]; rfl
        · obtain ⟨h1, h2⟩ := HPO.out h
          exact HYE.out h1 h2
      have hlen := profTo_len (ns := ns) (l := x.Links) (Nat.le_refl _)
      have HLEN := Lib.hid hlen
      clear hlen
      go_wp2
      go_ret
      refine HP.out _ _ ?_ HBE.out
      rw [HN.out]
      have h4 := HW.out
      have h5 := RowRd.of_ints (w := w2) (base := w.heap.size + 1) (v := .slice A3 ns.length cap3) (l := profTo ns x.Links ns.length) (by rw [HLEN.out]; exact h4) (by rw [HLEN.out]; omega) HI.out
      exact h5.mono (fun a ha => by omega)
end Go.Proofs.YtkaihnlknncfdaaGreatDoor

/- The model's InputOf: what it answers. -/
namespace Go.Proofs.YtkaihnlknncfdaaGreatDoor
set_option maxRecDepth 100000
open Go.RowKit M
set_option linter.unusedVariables false
set_option linter.unusedSimpArgs false

theorem specInput_any (x : DCandidate) (v : Value) (F : Addr → Prop) (w : World) (hl : x.Links.length ≤ 1048576) (hv : RowRd rLink false w v x.Links F) :
    Calls Tryz.prog 87 #[.agg #[v]] w fun e w' => e = .returned (.string ⟨(inS x.Links).toArray⟩) ∧ Below w.heap.size w w' := by
  have HS0 : Hid (∀ W, Below w.heap.size w W → Calls Tryz.prog 76 #[.agg #[v]] W fun e w' => e = .returned (.bool (isCd x.Links)) ∧ Below W.heap.size W w') := fun W hW => specIsCd_any x _ F W hl (hv.kept hW)
  have HS1 : Hid (∀ W, Below w.heap.size w W → Calls Tryz.prog 114 #[.agg #[v]] W fun e w' => e = .returned (.string ⟨(inL x.Links).toArray⟩) ∧ Below W.heap.size W w') := fun W hW => specIn_cd x _ F W hl (hv.kept hW)
  obtain ⟨A, cap, rfl⟩ := hv.form
  clear hv
  have HE : Hid (inS x.Links = if isCd x.Links then inL x.Links else []) := rfl
  generalize isCd x.Links = c at *
  generalize inS x.Links = r at *
  have HA : Hid (∀ o, Below w.heap.size w (w.alloc o)) := fun o => (Below.refl _ _).alloc (Nat.le_refl _) _
  have HA1 : Hid (InC (w.alloc (.cells #[.slice A x.Links.length cap] 55)) w.heap.size #[.slice A x.Links.length cap] 55) := heap_alloc_new _ _
  go_enter Tryz.func87, Tryz.ntmps87
  go_wp2_with fail
  refine (HS0.out _ (HA.out _)).mono ?_
  rintro e w2 ⟨rfl, hb⟩
  have b1 := (HA1.out.kept hb).cell 0 rfl
  have HB : Hid (Below w.heap.size w w2) := below_step (HA.out _) hb
  clear hb
  cases c
  · go_wp2_with fail
    go_ret
    exact ⟨ret_str (by rw [HE.out] <;> rfl), HB.out⟩
  · go_wp2_with fail
    refine (HS1.out _ HB.out).mono ?_
    rintro e w3 ⟨rfl, hb⟩
    have HB3 : Hid (Below w.heap.size w w3) := below_step HB.out hb
    clear hb
    go_wp2_with fail
    go_ret
    exact ⟨ret_str (by rw [HE.out] <;> rfl), HB3.out⟩
end Go.Proofs.YtkaihnlknncfdaaGreatDoor

/- The model's IsTableau: what it answers. -/
namespace Go.Proofs.YtkaihnlknncfdaaGreatDoor
set_option maxRecDepth 100000
open Go.RowKit Go.Sort M
set_option linter.unusedVariables false
set_option linter.unusedSimpArgs false

set_option maxHeartbeats 16000000 in
theorem specTab_any (x : DTableau) (A1 : Option Addr) (c1 : Nat) (A2 : Option Addr) (c2 : Nat) (A3 : Option Addr) (c3 : Nat) (F1 F2 F3 : Addr → Prop) (w : World) (hm : rTableau.sz x ≤ 1048576) (hv : TabRd false w (.slice A1 x.Names.length c1) (.slice A2 x.Rows.length c2) (.slice A3 x.Marks.length c3) x F1 F2 F3) :
    Calls Tryz.prog 40 #[.agg #[.string x.Input, .slice A1 x.Names.length c1, .slice A2 x.Rows.length c2, .slice A3 x.Marks.length c3]] w fun e w' => e = .returned (.bool (isTab x)) ∧ Below w.heap.size w w' := by
  obtain ⟨hz0, hz1, hz2, hz3, hz4, hz5⟩ := szTab_parts hm
  have hcap1 := hv.names.cap_le
  have HZ4 := Lib.hid hz4
  have HV := Lib.hid hv
  have HSA : Hid (∀ W, Below w.heap.size w W → Calls Tryz.prog 75 #[.slice A1 x.Names.length c1] W fun e w' => e = .returned (.bool (areC x.Names)) ∧ Below W.heap.size W w') := fun W hW => specAre_any mkT x.Names A1 c1 F1 W (by omega) hcap1 (hv.names.kept hW)
  have HSF : Hid (∀ W, Calls Tryz.prog 85 #[.string x.Input] W fun e w' => e = .returned (.bool (isFm x.Input)) ∧ W = w') := fun W => specFm_any x.Input W (by unfold maxLen; omega)
  have HSI : Hid (∀ (c : DCandidate) (v : Value) (G : Addr → Prop) W, c.Links.length ≤ 1048576 → RowRd rLink false W v c.Links G → Calls Tryz.prog 87 #[.agg #[v]] W fun e w' => e = .returned (.string (inT c.Links)) ∧ Below W.heap.size W w') := fun c v G W hl hr => specInput_any c v G W hl hr
  have HSC : Hid (∀ (c : DCandidate) (v : Value) (G : Addr → Prop) W, c.Links.length ≤ 1048576 → RowRd rLink false W v c.Links G → Calls Tryz.prog 76 #[.agg #[v]] W fun e w' => e = .returned (.bool (isCd c.Links)) ∧ Below W.heap.size W w') := fun c v G W hl hr => specIsCd_any c v G W hl hr
  have HSP : Hid (∀ (c : DCandidate) (v : Value) (G : Addr → Prop) W, c.Links.length ≤ 1048576 → Below w.heap.size w W → RowRd rLink false W v c.Links G → Calls Tryz.prog 34 #[.slice A1 x.Names.length c1, .agg #[v]] W (IntPost (profN x.Names c.Links) W)) := fun c v G W hl hW hr => specProf_any mkT x.Names A1 c1 F1 c v G W hz1 hl hcap1 (hv.names.kept hW) hr
  have HX2 : Hid (∀ k, k < x.Rows.length → ∃ y, x.Rows[k]? = some y) := fun k hk => ⟨_, List.getElem?_eq_getElem hk⟩
  have HX3 : Hid (∀ k, k < x.Marks.length → ∃ y, x.Marks[k]? = some y) := fun k hk => ⟨_, List.getElem?_eq_getElem hk⟩
  have HHD : Hid (headT x = (areC x.Names && (isFm x.Input && ((decide (1 ≤ (x.Rows.length : Int)) && decide ((x.Rows.length : Int) ≤ 250)) && decide ((x.Marks.length : Int) = (x.Rows.length : Int)))))) := rfl
  have HHF := Lib.hid (isTab_head (x := x))
  have HBD : Hid (∀ k, k < x.Rows.length → rowAt x k = false → isTab x = false) := fun k h1 h2 => isTab_bad h1 h2
  have HGD : Hid (headT x = true → (∀ k, k < x.Rows.length → rowAt x k = true) → isTab x = true) := isTab_good
  have HRA : Hid (∀ (k : Nat) (c : DCandidate) (m : List Int), x.Rows[k]? = some c → x.Marks[k]? = some m → rowAt x k = rowOk x.Names x.Input c.Links m) := fun k c m h1 h2 => rowAt_of h1 h2
  clear hv hz4 hz5 hm
  have HA : Hid (∀ o, Below w.heap.size w (w.alloc o)) := fun o => (Below.refl _ _).alloc (Nat.le_refl _) _
  have HA1 : Hid (InC (w.alloc (.cells #[.string x.Input, .slice A1 x.Names.length c1, .slice A2 x.Rows.length c2, .slice A3 x.Marks.length c3] 32)) w.heap.size #[.string x.Input, .slice A1 x.Names.length c1, .slice A2 x.Rows.length c2, .slice A3 x.Marks.length c3] 32) := heap_alloc_new _ _
  go_enter Tryz.func40, Tryz.ntmps40
  go_wp2_with fail
  refine (HSA.out _ (HA.out _)).mono ?_
  rintro e w1 ⟨rfl, hb⟩
  have HB1 : Hid (Below w.heap.size w w1) := below_step (HA.out _) hb
  have HX1 := Lib.hid (HA1.out.kept hb)
  have b0 := HX1.out.cell 0 rfl
  have b2 := HX1.out.cell 2 rfl
  have b3 := HX1.out.cell 3 rfl
  clear hb
  cases ha : areC x.Names with
  | false =>
    have HN : Hid (isTab x = false) := HHF.out (by rw [HHD.out, ha]; rfl)
    go_wp2_with fail
    go_ret
    exact ⟨ret_bool HN.out.symm, HB1.out⟩
  | true =>
  go_wp2_with fail
  refine (HSF.out _).mono ?_
  rintro e w1' ⟨rfl, rfl⟩
  cases hf : isFm x.Input with
  | false =>
    have HN : Hid (isTab x = false) := HHF.out (by rw [HHD.out, ha, hf]; rfl)
    go_wp2_with fail
    go_ret
    exact ⟨ret_bool HN.out.symm, HB1.out⟩
  | true =>
  go_wp2_with fail
  refine (specIn10_any _ _ _ _).mono ?_
  rintro e w1' ⟨rfl, rfl⟩
  by_cases hr : (1 ≤ (x.Rows.length : Int) ∧ (x.Rows.length : Int) ≤ 250)
  case neg =>
    have hd : (decide (1 ≤ (x.Rows.length : Int)) && decide ((x.Rows.length : Int) ≤ 250)) = false := by
      rw [Bool.and_eq_false_iff, decide_eq_false_iff_not, decide_eq_false_iff_not]; omega
    have HN : Hid (isTab x = false) := HHF.out (by rw [HHD.out, ha, hf, hd]; rfl)
    rw [hd]
    go_wp2_with fail
    go_ret
    exact ⟨ret_bool HN.out.symm, HB1.out⟩
  have hd : (decide (1 ≤ (x.Rows.length : Int)) && decide ((x.Rows.length : Int) ≤ 250)) = true := by rw [decide_eq_true hr.1, decide_eq_true hr.2]; rfl
  have hr1 := hr.1
  have hr2 := hr.2
  rw [hd]
  clear hr
  by_cases hml : (x.Marks.length : Int) = (x.Rows.length : Int)
  case neg =>
    have HN : Hid (isTab x = false) := HHF.out (by rw [HHD.out, ha, hf, hd, decide_eq_false hml]; rfl)
    clear hd ha hf
    go_wp2_with fail
    go_ret
    exact ⟨ret_bool HN.out.symm, HB1.out⟩
  have HHT : Hid (headT x = true) := by unfold Hid; rw [HHD.out, ha, hf, hd, decide_eq_true hml]; rfl
  clear hd ha hf HHD HHF b0 b2 b3
  have hml2 : x.Marks.length = x.Rows.length := by omega
  have b2 := HX1.out.cell 2 rfl
  have b3 := HX1.out.cell 3 rfl
  rw [hml2] at b3
  go_wp2
  go_loopw [3] (fun i wr => ∃ (k : Nat), k ≤ x.Rows.length ∧ i = .int .i64 k ∧ Hid (∀ j, j < k → rowAt x j = true) ∧ InC wr w.heap.size #[.string x.Input, .slice A1 x.Names.length c1, .slice A2 x.Rows.length c2, .slice A3 x.Marks.length c3] 32 ∧ Below w.heap.size w wr) (fun i _ => x.Rows.length - (intOf i).toNat)
  case atStart => exact ⟨0, by omega, rfl, fun j hj => by omega, HX1.out, HB1.out⟩
  case round =>
    obtain ⟨k, hk, rfl, hall, hbox, hbe0⟩ := hrel
    clear b2 b3
    obtain ⟨w2, rfl⟩ : ∃ w2 : World, w2 = wr := ⟨_, rfl⟩
    have HB := Lib.hid hbe0
    have HBX := Lib.hid hbox
    clear hbe0 hbox HX1 HB1
    by_cases hkl : k < x.Rows.length
    · obtain ⟨c, hc⟩ := HX2.out k hkl
      obtain ⟨m, hmk⟩ := HX3.out k (by omega)
      have HL := Lib.hid (HZ4.out k c hc)
      have HRK := Lib.hid (HRA.out k c m hc hmk)
      obtain ⟨g2, o2, xs2, G2, rfl, _, hr2', _, hc2⟩ := (HV.out.rows.kept HB.out).get hc
      obtain ⟨v2, rfl, q2⟩ := rCandidate_rd hr2'
      obtain ⟨g3, o3, xs3, G3, rfl, _, hr3', _, hc3⟩ := (HV.out.marks.kept HB.out).get hmk
      obtain ⟨v3, rfl, q3⟩ := id hr3'
      rw [rCandidate_size] at hc2
      rw [show (Rep.row Rep.int).size = 1 from rfl] at hc3
      have d2 := hc2 0 _ rfl
      have d3 := hc3 0 _ rfl
      simp only [Nat.add_zero, Nat.mul_one] at d2 d3
      have HC2 : Hid (∀ W : World, Below w2.heap.size w2 W → W.cell? ⟨g2, o2 + k, none⟩ = some v2) := fun W hW => cell_kept hW d2
      have HC3 : Hid (∀ W : World, Below w2.heap.size w2 W → W.cell? ⟨g3, o3 + k, none⟩ = some v3) := fun W hW => cell_kept hW d3
      have HQ2 := Lib.hid q2
      have HQ3 := Lib.hid q3
      have HBD2 := Lib.hid (HBD.out k hkl)
      have hkm : (k : Int) < (x.Marks.length : Int) := by omega
      have hkr : (k : Int) < (x.Rows.length : Int) := by omega
      have HW : Hid (∀ W : World, Below w2.heap.size w2 W → Below w.heap.size w W) := fun W hW => below_step HB.out hW
      have HB0 : Hid (∀ W : World, Below w2.heap.size w2 W → W.cell? ⟨w.heap.size, 0, none⟩ = some (.string x.Input)) := fun W hW => (HBX.out.kept hW).cell 0 rfl
      have HB1' : Hid (∀ W : World, Below w2.heap.size w2 W → W.cell? ⟨w.heap.size, 1, none⟩ = some (.slice A1 x.Names.length c1)) := fun W hW => (HBX.out.kept hW).cell 1 rfl
      have HB2 : Hid (∀ W : World, Below w2.heap.size w2 W → W.cell? ⟨w.heap.size, 2, none⟩ = some (.slice (some ⟨g2, o2, none⟩) x.Rows.length c2)) := fun W hW => (HBX.out.kept hW).cell 2 rfl
      have HB3 : Hid (∀ W : World, Below w2.heap.size w2 W → W.cell? ⟨w.heap.size, 3, none⟩ = some (.slice (some ⟨g3, o3, none⟩) x.Marks.length c3)) := fun W hW => (HBX.out.kept hW).cell 3 rfl
      have HIN : Hid (∀ W, Below w2.heap.size w2 W → Calls Tryz.prog 87 #[.agg #[v2]] W fun e w' => e = .returned (.string (inT c.Links)) ∧ Below W.heap.size W w') := fun W hW => HSI.out c v2 G2 W HL.out (HQ2.out.kept hW)
      have HIC : Hid (∀ W, Below w2.heap.size w2 W → Calls Tryz.prog 76 #[.agg #[v2]] W fun e w' => e = .returned (.bool (isCd c.Links)) ∧ Below W.heap.size W w') := fun W hW => HSC.out c v2 G2 W HL.out (HQ2.out.kept hW)
      have HPF : Hid (∀ W, Below w2.heap.size w2 W → Calls Tryz.prog 34 #[.slice A1 x.Names.length c1, .agg #[v2]] W (IntPost (profN x.Names c.Links) W)) := fun W hW => HSP.out c v2 G2 W HL.out (HW.out W hW) (HQ2.out.kept hW)
      have HSE : Hid (∀ W (u : Value) (G : Addr → Prop), Below w2.heap.size w2 W → RowRd Rep.int false W u (profN x.Names c.Links) G → Calls Tryz.prog 88 #[v3, u] W fun e w' => e = .returned (.bool (decide (m = profN x.Names c.Links))) ∧ Below W.heap.size W w') := fun W u G hW hu => specL11_any v3 u m _ G3 G W (HQ3.out.kept hW) hu
      have hne : ((inT c.Links).toList == x.Input.toList) = decide (inT c.Links = x.Input) := txt_eq _ _
      have HRO : Hid (rowAt x k = (isCd c.Links && (decide (inT c.Links = x.Input) && decide (m = profN x.Names c.Links)))) := HRK.out
      obtain ⟨A2', cp2, rfl⟩ := q2.form
      obtain ⟨A3', cp3, rfl⟩ := q3.form
      clear hc hmk hr2' hr3' hc2 hc3 d2 d3 q2 q3 HRK HQ2 HQ3 HL HSI HSC HSP HZ4 HX2 HX3 HRA
      generalize hbi : decide (inT c.Links = x.Input) = bi at *
      generalize hbc : isCd c.Links = bc at *
      generalize hbm : decide (m = profN x.Names c.Links) = bm at *
      clear hbi hbc hbm
      have b2 := HB2.out _ (Below.refl _ _)
      go_upto_region 6 with fail
      clear b2
      go_cut [71] (fun b wx => b = .bool (!rowAt x k) ∧ Below w2.heap.size w2 wx)
      case first =>
        refine wp_region_held_drew (S := fun w' => Below w2.heap.size w2 w') (by kernel_rfl) ((Below.refl _ _).drew) (fun hHeld => ?_)
        cases bi
        · refine' wpAnyH_take (i := 0) (oi := _) (v := ?v1) rfl ?hs1 ?hf1 ?hr1 ?hQ1 (Or.inl ⟨?hw1, ?hy1⟩) hHeld ?rest1
          case hs1 => kernel_rfl
          case hf1 => kernel_rfl
          case hr1 => kernel_rfl
          case hQ1 => exact fun _ _ _ h => h
          case hw1 => kernel_rfl
          case hy1 => (intro w' hw'; go_simp; try with_reducible rfl)
          (try change wpAnyH _ _ _ _ _ _ _ (Act.put _ (some 37) _) _)
          try simp only [Act.put, List.setIfInBounds_toArray, List.set_cons_zero, List.set_cons_succ]
          refine' wpAnyH_take (i := 1) (oi := _) (v := ?v2) rfl ?hs2 ?hf2 ?hr2 ?hQ2 (Or.inl ⟨?hw2, ?hy2⟩) hHeld ?rest2
          case hs2 => kernel_rfl
          case hf2 => kernel_rfl
          case hr2 => kernel_rfl
          case hQ2 => exact fun _ _ _ h => h
          case hw2 => kernel_rfl
          case hy2 => (intro w' hw'; have c0 := HB0.out _ hw'; have c1' := HB1'.out _ hw'; have c2' := HB2.out _ hw'; have c3' := HB3.out _ hw'; have c4' := HC2.out _ hw'; have c5' := HC3.out _ hw'; go_simp; try with_reducible rfl)
          (try change wpAnyH _ _ _ _ _ _ _ (Act.put _ (some 38) _) _)
          try simp only [Act.put, List.setIfInBounds_toArray, List.set_cons_zero, List.set_cons_succ]
          refine' wpAnyH_take (i := 2) (oi := _) (v := ?v3) rfl ?hs3 ?hf3 ?hr3 ?hQ3 (Or.inl ⟨?hw3, ?hy3⟩) hHeld ?rest3
          case hs3 => kernel_rfl
          case hf3 => kernel_rfl
          case hr3 => kernel_rfl
          case hQ3 => exact fun _ _ _ h => h
          case hw3 => kernel_rfl
          case hy3 => (intro w' hw'; go_simp; try with_reducible rfl)
          (try change wpAnyH _ _ _ _ _ _ _ (Act.put _ (some 39) _) _)
          try simp only [Act.put, List.setIfInBounds_toArray, List.set_cons_zero, List.set_cons_succ]
          refine' wpAnyH_take (i := 3) (oi := _) (v := ?v4) rfl ?hs4 ?hf4 ?hr4 ?hQ4 (Or.inl ⟨?hw4, ?hy4⟩) hHeld ?rest4
          case hs4 => kernel_rfl
          case hf4 => kernel_rfl
          case hr4 => kernel_rfl
          case hQ4 => exact fun _ _ _ h => h
          case hw4 => kernel_rfl
          case hy4 => (intro w' hw'; go_simp; try with_reducible rfl)
          (try change wpAnyH _ _ _ _ _ _ _ (Act.put _ (some 40) _) _)
          try simp only [Act.put, List.setIfInBounds_toArray, List.set_cons_zero, List.set_cons_succ]
          refine' wpAnyH_take (i := 4) (oi := _) (v := ?v5) rfl ?hs5 ?hf5 ?hr5 ?hQ5 (Or.inl ⟨?hw5, ?hy5⟩) hHeld ?rest5
          case hs5 => kernel_rfl
          case hf5 => kernel_rfl
          case hr5 => kernel_rfl
          case hQ5 => exact fun _ _ _ h => h
          case hw5 => kernel_rfl
          case hy5 => (intro w' hw'; have c0 := HB0.out _ hw'; have c1' := HB1'.out _ hw'; have c2' := HB2.out _ hw'; have c3' := HB3.out _ hw'; have c4' := HC2.out _ hw'; have c5' := HC3.out _ hw'; go_simp; try with_reducible rfl)
          (try change wpAnyH _ _ _ _ _ _ _ (Act.put _ (some 41) _) _)
          try simp only [Act.put, List.setIfInBounds_toArray, List.set_cons_zero, List.set_cons_succ]
          refine' wpAnyH_take (i := 6) (oi := _) (v := ?v6) rfl ?hs6 ?hf6 ?hr6 ?hQ6 (Or.inl ⟨?hw6, ?hy6⟩) hHeld ?rest6
          case hs6 => kernel_rfl
          case hf6 => kernel_rfl
          case hr6 => kernel_rfl
          case hQ6 => exact fun _ _ _ h => h
          case hw6 => kernel_rfl
          case hy6 => (intro w' hw'; go_simp; try with_reducible rfl)
          (try change wpAnyH _ _ _ _ _ _ _ (Act.put _ (some 43) _) _)
          try simp only [Act.put, List.setIfInBounds_toArray, List.set_cons_zero, List.set_cons_succ]
          refine' wpAnyH_take (i := 7) (oi := _) (v := ?v7) rfl ?hs7 ?hf7 ?hr7 ?hQ7 (Or.inl ⟨?hw7, ?hy7⟩) hHeld ?rest7
          case hs7 => kernel_rfl
          case hf7 => kernel_rfl
          case hr7 => kernel_rfl
          case hQ7 => exact fun _ _ _ h => h
          case hw7 => kernel_rfl
          case hy7 => (intro w' hw'; have c0 := HB0.out _ hw'; have c1' := HB1'.out _ hw'; have c2' := HB2.out _ hw'; have c3' := HB3.out _ hw'; have c4' := HC2.out _ hw'; have c5' := HC3.out _ hw'; go_simp; try with_reducible rfl)
          (try change wpAnyH _ _ _ _ _ _ _ (Act.put _ (some 44) _) _)
          try simp only [Act.put, List.setIfInBounds_toArray, List.set_cons_zero, List.set_cons_succ]
          refine wpAnyH_ready (rs := [5]) (by kernel_rfl) (by simp) ?_
          refine AllReadyH.cons rfl (fun K hK => ?_) AllReadyH.nil
          go_simp
          go_at_call 87; refine (HIN.out _ hHeld).mono ?_; rintro e wa ⟨rfl, hba⟩; have hbe := below_step hHeld hba; clear hba
          (try go_wp2_with fail)
          refine hK.out _ _ hbe (fun hHeld => ?_)
          clear hK K
          try simp only [Act.put, List.setIfInBounds_toArray, List.set_cons_zero, List.set_cons_succ]
          refine' wpAnyH_take (i := 8) (oi := _) (v := ?v8) rfl ?hs8 ?hf8 ?hr8 ?hQ8 (Or.inl ⟨?hw8, ?hy8⟩) hHeld ?rest8
          case hs8 => kernel_rfl
          case hf8 => kernel_rfl
          case hr8 => kernel_rfl
          case hQ8 => exact fun _ _ _ h => h
          case hw8 => kernel_rfl
          case hy8 => (intro w' hw'; go_simp; try with_reducible rfl)
          (try change wpAnyH _ _ _ _ _ _ _ (Act.put _ (some 45) _) _)
          try simp only [Act.put, List.setIfInBounds_toArray, List.set_cons_zero, List.set_cons_succ]
          refine' wpAnyH_take (i := 9) (oi := _) (v := ?v9) rfl ?hs9 ?hf9 ?hr9 ?hQ9 (Or.inl ⟨?hw9, ?hy9⟩) hHeld ?rest9
          case hs9 => kernel_rfl
          case hf9 => kernel_rfl
          case hr9 => kernel_rfl
          case hQ9 => exact fun _ _ _ h => h
          case hw9 => kernel_rfl
          case hy9 => (intro w' hw'; go_simp; try with_reducible rfl)
          (try change wpAnyH _ _ _ _ _ _ _ (Act.put _ (some 46) _) _)
          try simp only [Act.put, List.setIfInBounds_toArray, List.set_cons_zero, List.set_cons_succ]
          refine' wpAnyH_take (i := 10) (oi := _) (v := undef) rfl ?hs10 ?hf10 ?hr10 ?hQ10 (Or.inr ⟨?hw10, rfl⟩) hHeld ?rest10
          case hs10 => kernel_rfl
          case hf10 => kernel_rfl
          case hr10 => kernel_rfl
          case hQ10 => exact fun _ _ _ h => h
          case hw10 => kernel_rfl
          (try change wpAnyH _ _ _ _ _ _ _ (Act.put _ (some 47) _) _)
          try simp only [Act.put, List.setIfInBounds_toArray, List.set_cons_zero, List.set_cons_succ]
          refine' wpAnyH_take (i := 11) (oi := _) (v := undef) rfl ?hs11 ?hf11 ?hr11 ?hQ11 (Or.inr ⟨?hw11, rfl⟩) hHeld ?rest11
          case hs11 => kernel_rfl
          case hf11 => kernel_rfl
          case hr11 => kernel_rfl
          case hQ11 => exact fun _ _ _ h => h
          case hw11 => kernel_rfl
          (try change wpAnyH _ _ _ _ _ _ _ (Act.put _ (some 48) _) _)
          try simp only [Act.put, List.setIfInBounds_toArray, List.set_cons_zero, List.set_cons_succ]
          refine' wpAnyH_take (i := 12) (oi := _) (v := undef) rfl ?hs12 ?hf12 ?hr12 ?hQ12 (Or.inr ⟨?hw12, rfl⟩) hHeld ?rest12
          case hs12 => kernel_rfl
          case hf12 => kernel_rfl
          case hr12 => kernel_rfl
          case hQ12 => exact fun _ _ _ h => h
          case hw12 => kernel_rfl
          (try change wpAnyH _ _ _ _ _ _ _ (Act.put _ (some 49) _) _)
          try simp only [Act.put, List.setIfInBounds_toArray, List.set_cons_zero, List.set_cons_succ]
          refine' wpAnyH_take (i := 13) (oi := _) (v := undef) rfl ?hs13 ?hf13 ?hr13 ?hQ13 (Or.inr ⟨?hw13, rfl⟩) hHeld ?rest13
          case hs13 => kernel_rfl
          case hf13 => kernel_rfl
          case hr13 => kernel_rfl
          case hQ13 => exact fun _ _ _ h => h
          case hw13 => kernel_rfl
          (try change wpAnyH _ _ _ _ _ _ _ (Act.put _ (some 50) _) _)
          try simp only [Act.put, List.setIfInBounds_toArray, List.set_cons_zero, List.set_cons_succ]
          refine' wpAnyH_take (i := 14) (oi := _) (v := undef) rfl ?hs14 ?hf14 ?hr14 ?hQ14 (Or.inr ⟨?hw14, rfl⟩) hHeld ?rest14
          case hs14 => kernel_rfl
          case hf14 => kernel_rfl
          case hr14 => kernel_rfl
          case hQ14 => exact fun _ _ _ h => h
          case hw14 => kernel_rfl
          (try change wpAnyH _ _ _ _ _ _ _ (Act.put _ (some 51) _) _)
          try simp only [Act.put, List.setIfInBounds_toArray, List.set_cons_zero, List.set_cons_succ]
          refine' wpAnyH_take (i := 15) (oi := _) (v := undef) rfl ?hs15 ?hf15 ?hr15 ?hQ15 (Or.inr ⟨?hw15, rfl⟩) hHeld ?rest15
          case hs15 => kernel_rfl
          case hf15 => kernel_rfl
          case hr15 => kernel_rfl
          case hQ15 => exact fun _ _ _ h => h
          case hw15 => kernel_rfl
          (try change wpAnyH _ _ _ _ _ _ _ (Act.put _ (some 52) _) _)
          try simp only [Act.put, List.setIfInBounds_toArray, List.set_cons_zero, List.set_cons_succ]
          refine' wpAnyH_take (i := 16) (oi := _) (v := undef) rfl ?hs16 ?hf16 ?hr16 ?hQ16 (Or.inr ⟨?hw16, rfl⟩) hHeld ?rest16
          case hs16 => kernel_rfl
          case hf16 => kernel_rfl
          case hr16 => kernel_rfl
          case hQ16 => exact fun _ _ _ h => h
          case hw16 => kernel_rfl
          (try change wpAnyH _ _ _ _ _ _ _ (Act.put _ (some 53) _) _)
          try simp only [Act.put, List.setIfInBounds_toArray, List.set_cons_zero, List.set_cons_succ]
          refine' wpAnyH_take (i := 17) (oi := _) (v := ?v17) rfl ?hs17 ?hf17 ?hr17 ?hQ17 (Or.inl ⟨?hw17, ?hy17⟩) hHeld ?rest17
          case hs17 => kernel_rfl
          case hf17 => kernel_rfl
          case hr17 => kernel_rfl
          case hQ17 => exact fun _ _ _ h => h
          case hw17 => kernel_rfl
          case hy17 => (intro w' hw'; go_simp; try with_reducible rfl)
          (try change wpAnyH _ _ _ _ _ _ _ (Act.put _ (some 54) _) _)
          try simp only [Act.put, List.setIfInBounds_toArray, List.set_cons_zero, List.set_cons_succ]
          refine' wpAnyH_take (i := 18) (oi := _) (v := ?v18) rfl ?hs18 ?hf18 ?hr18 ?hQ18 (Or.inl ⟨?hw18, ?hy18⟩) hHeld ?rest18
          case hs18 => kernel_rfl
          case hf18 => kernel_rfl
          case hr18 => kernel_rfl
          case hQ18 => exact fun _ _ _ h => h
          case hw18 => kernel_rfl
          case hy18 => (intro w' hw'; go_simp; try with_reducible rfl)
          (try change wpAnyH _ _ _ _ _ _ _ (Act.put _ (some 55) _) _)
          try simp only [Act.put, List.setIfInBounds_toArray, List.set_cons_zero, List.set_cons_succ]
          refine' wpAnyH_take (i := 19) (oi := _) (v := undef) rfl ?hs19 ?hf19 ?hr19 ?hQ19 (Or.inr ⟨?hw19, rfl⟩) hHeld ?rest19
          case hs19 => kernel_rfl
          case hf19 => kernel_rfl
          case hr19 => kernel_rfl
          case hQ19 => exact fun _ _ _ h => h
          case hw19 => kernel_rfl
          (try change wpAnyH _ _ _ _ _ _ _ (Act.put _ (some 56) _) _)
          try simp only [Act.put, List.setIfInBounds_toArray, List.set_cons_zero, List.set_cons_succ]
          refine' wpAnyH_take (i := 20) (oi := _) (v := undef) rfl ?hs20 ?hf20 ?hr20 ?hQ20 (Or.inr ⟨?hw20, rfl⟩) hHeld ?rest20
          case hs20 => kernel_rfl
          case hf20 => kernel_rfl
          case hr20 => kernel_rfl
          case hQ20 => exact fun _ _ _ h => h
          case hw20 => kernel_rfl
          (try change wpAnyH _ _ _ _ _ _ _ (Act.put _ (some 57) _) _)
          try simp only [Act.put, List.setIfInBounds_toArray, List.set_cons_zero, List.set_cons_succ]
          refine' wpAnyH_take (i := 21) (oi := _) (v := undef) rfl ?hs21 ?hf21 ?hr21 ?hQ21 (Or.inr ⟨?hw21, rfl⟩) hHeld ?rest21
          case hs21 => kernel_rfl
          case hf21 => kernel_rfl
          case hr21 => kernel_rfl
          case hQ21 => exact fun _ _ _ h => h
          case hw21 => kernel_rfl
          (try change wpAnyH _ _ _ _ _ _ _ (Act.put _ (some 58) _) _)
          try simp only [Act.put, List.setIfInBounds_toArray, List.set_cons_zero, List.set_cons_succ]
          refine' wpAnyH_take (i := 22) (oi := _) (v := undef) rfl ?hs22 ?hf22 ?hr22 ?hQ22 (Or.inr ⟨?hw22, rfl⟩) hHeld ?rest22
          case hs22 => kernel_rfl
          case hf22 => kernel_rfl
          case hr22 => kernel_rfl
          case hQ22 => exact fun _ _ _ h => h
          case hw22 => kernel_rfl
          (try change wpAnyH _ _ _ _ _ _ _ (Act.put _ (some 59) _) _)
          try simp only [Act.put, List.setIfInBounds_toArray, List.set_cons_zero, List.set_cons_succ]
          refine' wpAnyH_take (i := 23) (oi := _) (v := undef) rfl ?hs23 ?hf23 ?hr23 ?hQ23 (Or.inr ⟨?hw23, rfl⟩) hHeld ?rest23
          case hs23 => kernel_rfl
          case hf23 => kernel_rfl
          case hr23 => kernel_rfl
          case hQ23 => exact fun _ _ _ h => h
          case hw23 => kernel_rfl
          (try change wpAnyH _ _ _ _ _ _ _ (Act.put _ (some 60) _) _)
          try simp only [Act.put, List.setIfInBounds_toArray, List.set_cons_zero, List.set_cons_succ]
          refine' wpAnyH_take (i := 24) (oi := _) (v := undef) rfl ?hs24 ?hf24 ?hr24 ?hQ24 (Or.inr ⟨?hw24, rfl⟩) hHeld ?rest24
          case hs24 => kernel_rfl
          case hf24 => kernel_rfl
          case hr24 => kernel_rfl
          case hQ24 => exact fun _ _ _ h => h
          case hw24 => kernel_rfl
          (try change wpAnyH _ _ _ _ _ _ _ (Act.put _ (some 61) _) _)
          try simp only [Act.put, List.setIfInBounds_toArray, List.set_cons_zero, List.set_cons_succ]
          refine' wpAnyH_take (i := 25) (oi := _) (v := undef) rfl ?hs25 ?hf25 ?hr25 ?hQ25 (Or.inr ⟨?hw25, rfl⟩) hHeld ?rest25
          case hs25 => kernel_rfl
          case hf25 => kernel_rfl
          case hr25 => kernel_rfl
          case hQ25 => exact fun _ _ _ h => h
          case hw25 => kernel_rfl
          (try change wpAnyH _ _ _ _ _ _ _ (Act.put _ (some 62) _) _)
          try simp only [Act.put, List.setIfInBounds_toArray, List.set_cons_zero, List.set_cons_succ]
          refine' wpAnyH_take (i := 26) (oi := _) (v := undef) rfl ?hs26 ?hf26 ?hr26 ?hQ26 (Or.inr ⟨?hw26, rfl⟩) hHeld ?rest26
          case hs26 => kernel_rfl
          case hf26 => kernel_rfl
          case hr26 => kernel_rfl
          case hQ26 => exact fun _ _ _ h => h
          case hw26 => kernel_rfl
          (try change wpAnyH _ _ _ _ _ _ _ (Act.put _ (some 63) _) _)
          try simp only [Act.put, List.setIfInBounds_toArray, List.set_cons_zero, List.set_cons_succ]
          refine' wpAnyH_take (i := 27) (oi := _) (v := undef) rfl ?hs27 ?hf27 ?hr27 ?hQ27 (Or.inr ⟨?hw27, rfl⟩) hHeld ?rest27
          case hs27 => kernel_rfl
          case hf27 => kernel_rfl
          case hr27 => kernel_rfl
          case hQ27 => exact fun _ _ _ h => h
          case hw27 => kernel_rfl
          (try change wpAnyH _ _ _ _ _ _ _ (Act.put _ (some 64) _) _)
          try simp only [Act.put, List.setIfInBounds_toArray, List.set_cons_zero, List.set_cons_succ]
          refine' wpAnyH_take (i := 28) (oi := _) (v := undef) rfl ?hs28 ?hf28 ?hr28 ?hQ28 (Or.inr ⟨?hw28, rfl⟩) hHeld ?rest28
          case hs28 => kernel_rfl
          case hf28 => kernel_rfl
          case hr28 => kernel_rfl
          case hQ28 => exact fun _ _ _ h => h
          case hw28 => kernel_rfl
          (try change wpAnyH _ _ _ _ _ _ _ (Act.put _ (some 65) _) _)
          try simp only [Act.put, List.setIfInBounds_toArray, List.set_cons_zero, List.set_cons_succ]
          refine' wpAnyH_take (i := 29) (oi := _) (v := undef) rfl ?hs29 ?hf29 ?hr29 ?hQ29 (Or.inr ⟨?hw29, rfl⟩) hHeld ?rest29
          case hs29 => kernel_rfl
          case hf29 => kernel_rfl
          case hr29 => kernel_rfl
          case hQ29 => exact fun _ _ _ h => h
          case hw29 => kernel_rfl
          (try change wpAnyH _ _ _ _ _ _ _ (Act.put _ (some 66) _) _)
          try simp only [Act.put, List.setIfInBounds_toArray, List.set_cons_zero, List.set_cons_succ]
          refine' wpAnyH_take (i := 30) (oi := _) (v := undef) rfl ?hs30 ?hf30 ?hr30 ?hQ30 (Or.inr ⟨?hw30, rfl⟩) hHeld ?rest30
          case hs30 => kernel_rfl
          case hf30 => kernel_rfl
          case hr30 => kernel_rfl
          case hQ30 => exact fun _ _ _ h => h
          case hw30 => kernel_rfl
          (try change wpAnyH _ _ _ _ _ _ _ (Act.put _ (some 67) _) _)
          try simp only [Act.put, List.setIfInBounds_toArray, List.set_cons_zero, List.set_cons_succ]
          refine' wpAnyH_take (i := 31) (oi := _) (v := undef) rfl ?hs31 ?hf31 ?hr31 ?hQ31 (Or.inr ⟨?hw31, rfl⟩) hHeld ?rest31
          case hs31 => kernel_rfl
          case hf31 => kernel_rfl
          case hr31 => kernel_rfl
          case hQ31 => exact fun _ _ _ h => h
          case hw31 => kernel_rfl
          (try change wpAnyH _ _ _ _ _ _ _ (Act.put _ (some 68) _) _)
          try simp only [Act.put, List.setIfInBounds_toArray, List.set_cons_zero, List.set_cons_succ]
          refine' wpAnyH_take (i := 32) (oi := _) (v := undef) rfl ?hs32 ?hf32 ?hr32 ?hQ32 (Or.inr ⟨?hw32, rfl⟩) hHeld ?rest32
          case hs32 => kernel_rfl
          case hf32 => kernel_rfl
          case hr32 => kernel_rfl
          case hQ32 => exact fun _ _ _ h => h
          case hw32 => kernel_rfl
          (try change wpAnyH _ _ _ _ _ _ _ (Act.put _ (some 69) _) _)
          try simp only [Act.put, List.setIfInBounds_toArray, List.set_cons_zero, List.set_cons_succ]
          refine' wpAnyH_take (i := 33) (oi := _) (v := undef) rfl ?hs33 ?hf33 ?hr33 ?hQ33 (Or.inr ⟨?hw33, rfl⟩) hHeld ?rest33
          case hs33 => kernel_rfl
          case hf33 => kernel_rfl
          case hr33 => kernel_rfl
          case hQ33 => exact fun _ _ _ h => h
          case hw33 => kernel_rfl
          (try change wpAnyH _ _ _ _ _ _ _ (Act.put _ (some 70) _) _)
          try simp only [Act.put, List.setIfInBounds_toArray, List.set_cons_zero, List.set_cons_succ]
          refine' wpAnyH_take (i := 34) (oi := _) (v := ?v34) rfl ?hs34 ?hf34 ?hr34 ?hQ34 (Or.inl ⟨?hw34, ?hy34⟩) hHeld ?rest34
          case hs34 => kernel_rfl
          case hf34 => kernel_rfl
          case hr34 => kernel_rfl
          case hQ34 => exact fun _ _ _ h => h
          case hw34 => kernel_rfl
          case hy34 => (intro w' hw'; go_simp; try with_reducible rfl)
          (try change wpAnyH _ _ _ _ _ _ _ (Act.put _ (some 71) _) _)
          try simp only [Act.put, List.setIfInBounds_toArray, List.set_cons_zero, List.set_cons_succ]
          refine wpAnyH_done ?hdone35 ?hq35 _
          case hdone35 => kernel_rfl
          go_wp2_with fail
          go_meet
          exact ⟨by rw [HRO.out]; first | rfl | simp, hHeld⟩
        · cases bc
          · refine' wpAnyH_take (i := 0) (oi := _) (v := ?v36) rfl ?hs36 ?hf36 ?hr36 ?hQ36 (Or.inl ⟨?hw36, ?hy36⟩) hHeld ?rest36
            case hs36 => kernel_rfl
            case hf36 => kernel_rfl
            case hr36 => kernel_rfl
            case hQ36 => exact fun _ _ _ h => h
            case hw36 => kernel_rfl
            case hy36 => (intro w' hw'; go_simp; try with_reducible rfl)
            (try change wpAnyH _ _ _ _ _ _ _ (Act.put _ (some 37) _) _)
            try simp only [Act.put, List.setIfInBounds_toArray, List.set_cons_zero, List.set_cons_succ]
            refine' wpAnyH_take (i := 1) (oi := _) (v := ?v37) rfl ?hs37 ?hf37 ?hr37 ?hQ37 (Or.inl ⟨?hw37, ?hy37⟩) hHeld ?rest37
            case hs37 => kernel_rfl
            case hf37 => kernel_rfl
            case hr37 => kernel_rfl
            case hQ37 => exact fun _ _ _ h => h
            case hw37 => kernel_rfl
            case hy37 => (intro w' hw'; have c0 := HB0.out _ hw'; have c1' := HB1'.out _ hw'; have c2' := HB2.out _ hw'; have c3' := HB3.out _ hw'; have c4' := HC2.out _ hw'; have c5' := HC3.out _ hw'; go_simp; try with_reducible rfl)
            (try change wpAnyH _ _ _ _ _ _ _ (Act.put _ (some 38) _) _)
            try simp only [Act.put, List.setIfInBounds_toArray, List.set_cons_zero, List.set_cons_succ]
            refine' wpAnyH_take (i := 2) (oi := _) (v := ?v38) rfl ?hs38 ?hf38 ?hr38 ?hQ38 (Or.inl ⟨?hw38, ?hy38⟩) hHeld ?rest38
            case hs38 => kernel_rfl
            case hf38 => kernel_rfl
            case hr38 => kernel_rfl
            case hQ38 => exact fun _ _ _ h => h
            case hw38 => kernel_rfl
            case hy38 => (intro w' hw'; go_simp; try with_reducible rfl)
            (try change wpAnyH _ _ _ _ _ _ _ (Act.put _ (some 39) _) _)
            try simp only [Act.put, List.setIfInBounds_toArray, List.set_cons_zero, List.set_cons_succ]
            refine' wpAnyH_take (i := 3) (oi := _) (v := ?v39) rfl ?hs39 ?hf39 ?hr39 ?hQ39 (Or.inl ⟨?hw39, ?hy39⟩) hHeld ?rest39
            case hs39 => kernel_rfl
            case hf39 => kernel_rfl
            case hr39 => kernel_rfl
            case hQ39 => exact fun _ _ _ h => h
            case hw39 => kernel_rfl
            case hy39 => (intro w' hw'; go_simp; try with_reducible rfl)
            (try change wpAnyH _ _ _ _ _ _ _ (Act.put _ (some 40) _) _)
            try simp only [Act.put, List.setIfInBounds_toArray, List.set_cons_zero, List.set_cons_succ]
            refine' wpAnyH_take (i := 4) (oi := _) (v := ?v40) rfl ?hs40 ?hf40 ?hr40 ?hQ40 (Or.inl ⟨?hw40, ?hy40⟩) hHeld ?rest40
            case hs40 => kernel_rfl
            case hf40 => kernel_rfl
            case hr40 => kernel_rfl
            case hQ40 => exact fun _ _ _ h => h
            case hw40 => kernel_rfl
            case hy40 => (intro w' hw'; have c0 := HB0.out _ hw'; have c1' := HB1'.out _ hw'; have c2' := HB2.out _ hw'; have c3' := HB3.out _ hw'; have c4' := HC2.out _ hw'; have c5' := HC3.out _ hw'; go_simp; try with_reducible rfl)
            (try change wpAnyH _ _ _ _ _ _ _ (Act.put _ (some 41) _) _)
            try simp only [Act.put, List.setIfInBounds_toArray, List.set_cons_zero, List.set_cons_succ]
            refine' wpAnyH_take (i := 6) (oi := _) (v := ?v41) rfl ?hs41 ?hf41 ?hr41 ?hQ41 (Or.inl ⟨?hw41, ?hy41⟩) hHeld ?rest41
            case hs41 => kernel_rfl
            case hf41 => kernel_rfl
            case hr41 => kernel_rfl
            case hQ41 => exact fun _ _ _ h => h
            case hw41 => kernel_rfl
            case hy41 => (intro w' hw'; go_simp; try with_reducible rfl)
            (try change wpAnyH _ _ _ _ _ _ _ (Act.put _ (some 43) _) _)
            try simp only [Act.put, List.setIfInBounds_toArray, List.set_cons_zero, List.set_cons_succ]
            refine' wpAnyH_take (i := 7) (oi := _) (v := ?v42) rfl ?hs42 ?hf42 ?hr42 ?hQ42 (Or.inl ⟨?hw42, ?hy42⟩) hHeld ?rest42
            case hs42 => kernel_rfl
            case hf42 => kernel_rfl
            case hr42 => kernel_rfl
            case hQ42 => exact fun _ _ _ h => h
            case hw42 => kernel_rfl
            case hy42 => (intro w' hw'; have c0 := HB0.out _ hw'; have c1' := HB1'.out _ hw'; have c2' := HB2.out _ hw'; have c3' := HB3.out _ hw'; have c4' := HC2.out _ hw'; have c5' := HC3.out _ hw'; go_simp; try with_reducible rfl)
            (try change wpAnyH _ _ _ _ _ _ _ (Act.put _ (some 44) _) _)
            try simp only [Act.put, List.setIfInBounds_toArray, List.set_cons_zero, List.set_cons_succ]
            refine wpAnyH_ready (rs := [5]) (by kernel_rfl) (by simp) ?_
            refine AllReadyH.cons rfl (fun K hK => ?_) AllReadyH.nil
            go_simp
            go_at_call 87; refine (HIN.out _ hHeld).mono ?_; rintro e wa ⟨rfl, hba⟩; have hbe := below_step hHeld hba; clear hba
            (try go_wp2_with fail)
            refine hK.out _ _ hbe (fun hHeld => ?_)
            clear hK K
            try simp only [Act.put, List.setIfInBounds_toArray, List.set_cons_zero, List.set_cons_succ]
            refine' wpAnyH_take (i := 8) (oi := _) (v := ?v43) rfl ?hs43 ?hf43 ?hr43 ?hQ43 (Or.inl ⟨?hw43, ?hy43⟩) hHeld ?rest43
            case hs43 => kernel_rfl
            case hf43 => kernel_rfl
            case hr43 => kernel_rfl
            case hQ43 => exact fun _ _ _ h => h
            case hw43 => kernel_rfl
            case hy43 => (intro w' hw'; go_simp; try with_reducible rfl)
            (try change wpAnyH _ _ _ _ _ _ _ (Act.put _ (some 45) _) _)
            try simp only [Act.put, List.setIfInBounds_toArray, List.set_cons_zero, List.set_cons_succ]
            refine' wpAnyH_take (i := 9) (oi := _) (v := ?v44) rfl ?hs44 ?hf44 ?hr44 ?hQ44 (Or.inl ⟨?hw44, ?hy44⟩) hHeld ?rest44
            case hs44 => kernel_rfl
            case hf44 => kernel_rfl
            case hr44 => kernel_rfl
            case hQ44 => exact fun _ _ _ h => h
            case hw44 => kernel_rfl
            case hy44 => (intro w' hw'; go_simp; try with_reducible rfl)
            (try change wpAnyH _ _ _ _ _ _ _ (Act.put _ (some 46) _) _)
            try simp only [Act.put, List.setIfInBounds_toArray, List.set_cons_zero, List.set_cons_succ]
            refine' wpAnyH_take (i := 10) (oi := _) (v := ?v45) rfl ?hs45 ?hf45 ?hr45 ?hQ45 (Or.inl ⟨?hw45, ?hy45⟩) hHeld ?rest45
            case hs45 => kernel_rfl
            case hf45 => kernel_rfl
            case hr45 => kernel_rfl
            case hQ45 => exact fun _ _ _ h => h
            case hw45 => kernel_rfl
            case hy45 => (intro w' hw'; go_simp; try with_reducible rfl)
            (try change wpAnyH _ _ _ _ _ _ _ (Act.put _ (some 47) _) _)
            try simp only [Act.put, List.setIfInBounds_toArray, List.set_cons_zero, List.set_cons_succ]
            refine' wpAnyH_take (i := 11) (oi := _) (v := ?v46) rfl ?hs46 ?hf46 ?hr46 ?hQ46 (Or.inl ⟨?hw46, ?hy46⟩) hHeld ?rest46
            case hs46 => kernel_rfl
            case hf46 => kernel_rfl
            case hr46 => kernel_rfl
            case hQ46 => exact fun _ _ _ h => h
            case hw46 => kernel_rfl
            case hy46 => (intro w' hw'; have c0 := HB0.out _ hw'; have c1' := HB1'.out _ hw'; have c2' := HB2.out _ hw'; have c3' := HB3.out _ hw'; have c4' := HC2.out _ hw'; have c5' := HC3.out _ hw'; go_simp; try with_reducible rfl)
            (try change wpAnyH _ _ _ _ _ _ _ (Act.put _ (some 48) _) _)
            try simp only [Act.put, List.setIfInBounds_toArray, List.set_cons_zero, List.set_cons_succ]
            refine' wpAnyH_take (i := 12) (oi := _) (v := ?v47) rfl ?hs47 ?hf47 ?hr47 ?hQ47 (Or.inl ⟨?hw47, ?hy47⟩) hHeld ?rest47
            case hs47 => kernel_rfl
            case hf47 => kernel_rfl
            case hr47 => kernel_rfl
            case hQ47 => exact fun _ _ _ h => h
            case hw47 => kernel_rfl
            case hy47 => (intro w' hw'; go_simp; try with_reducible rfl)
            (try change wpAnyH _ _ _ _ _ _ _ (Act.put _ (some 49) _) _)
            try simp only [Act.put, List.setIfInBounds_toArray, List.set_cons_zero, List.set_cons_succ]
            refine' wpAnyH_take (i := 13) (oi := _) (v := ?v48) rfl ?hs48 ?hf48 ?hr48 ?hQ48 (Or.inl ⟨?hw48, ?hy48⟩) hHeld ?rest48
            case hs48 => kernel_rfl
            case hf48 => kernel_rfl
            case hr48 => kernel_rfl
            case hQ48 => exact fun _ _ _ h => h
            case hw48 => kernel_rfl
            case hy48 => (intro w' hw'; go_simp; try with_reducible rfl)
            (try change wpAnyH _ _ _ _ _ _ _ (Act.put _ (some 50) _) _)
            try simp only [Act.put, List.setIfInBounds_toArray, List.set_cons_zero, List.set_cons_succ]
            refine' wpAnyH_take (i := 14) (oi := _) (v := ?v49) rfl ?hs49 ?hf49 ?hr49 ?hQ49 (Or.inl ⟨?hw49, ?hy49⟩) hHeld ?rest49
            case hs49 => kernel_rfl
            case hf49 => kernel_rfl
            case hr49 => kernel_rfl
            case hQ49 => exact fun _ _ _ h => h
            case hw49 => kernel_rfl
            case hy49 => (intro w' hw'; have c0 := HB0.out _ hw'; have c1' := HB1'.out _ hw'; have c2' := HB2.out _ hw'; have c3' := HB3.out _ hw'; have c4' := HC2.out _ hw'; have c5' := HC3.out _ hw'; go_simp; try with_reducible rfl)
            (try change wpAnyH _ _ _ _ _ _ _ (Act.put _ (some 51) _) _)
            try simp only [Act.put, List.setIfInBounds_toArray, List.set_cons_zero, List.set_cons_succ]
            refine wpAnyH_ready (rs := [15]) (by kernel_rfl) (by simp) ?_
            refine AllReadyH.cons rfl (fun K hK => ?_) AllReadyH.nil
            go_simp
            go_at_call 76; refine (HIC.out _ hHeld).mono ?_; rintro e wb ⟨rfl, hba⟩; have hbe := below_step hHeld hba; clear hba
            (try go_wp2_with fail)
            refine hK.out _ _ hbe (fun hHeld => ?_)
            clear hK K
            try simp only [Act.put, List.setIfInBounds_toArray, List.set_cons_zero, List.set_cons_succ]
            refine' wpAnyH_take (i := 16) (oi := _) (v := ?v50) rfl ?hs50 ?hf50 ?hr50 ?hQ50 (Or.inl ⟨?hw50, ?hy50⟩) hHeld ?rest50
            case hs50 => kernel_rfl
            case hf50 => kernel_rfl
            case hr50 => kernel_rfl
            case hQ50 => exact fun _ _ _ h => h
            case hw50 => kernel_rfl
            case hy50 => (intro w' hw'; go_simp; try with_reducible rfl)
            (try change wpAnyH _ _ _ _ _ _ _ (Act.put _ (some 53) _) _)
            try simp only [Act.put, List.setIfInBounds_toArray, List.set_cons_zero, List.set_cons_succ]
            refine' wpAnyH_take (i := 17) (oi := _) (v := ?v51) rfl ?hs51 ?hf51 ?hr51 ?hQ51 (Or.inl ⟨?hw51, ?hy51⟩) hHeld ?rest51
            case hs51 => kernel_rfl
            case hf51 => kernel_rfl
            case hr51 => kernel_rfl
            case hQ51 => exact fun _ _ _ h => h
            case hw51 => kernel_rfl
            case hy51 => (intro w' hw'; go_simp; try with_reducible rfl)
            (try change wpAnyH _ _ _ _ _ _ _ (Act.put _ (some 54) _) _)
            try simp only [Act.put, List.setIfInBounds_toArray, List.set_cons_zero, List.set_cons_succ]
            refine' wpAnyH_take (i := 18) (oi := _) (v := ?v52) rfl ?hs52 ?hf52 ?hr52 ?hQ52 (Or.inl ⟨?hw52, ?hy52⟩) hHeld ?rest52
            case hs52 => kernel_rfl
            case hf52 => kernel_rfl
            case hr52 => kernel_rfl
            case hQ52 => exact fun _ _ _ h => h
            case hw52 => kernel_rfl
            case hy52 => (intro w' hw'; go_simp; try with_reducible rfl)
            (try change wpAnyH _ _ _ _ _ _ _ (Act.put _ (some 55) _) _)
            try simp only [Act.put, List.setIfInBounds_toArray, List.set_cons_zero, List.set_cons_succ]
            refine' wpAnyH_take (i := 19) (oi := _) (v := undef) rfl ?hs53 ?hf53 ?hr53 ?hQ53 (Or.inr ⟨?hw53, rfl⟩) hHeld ?rest53
            case hs53 => kernel_rfl
            case hf53 => kernel_rfl
            case hr53 => kernel_rfl
            case hQ53 => exact fun _ _ _ h => h
            case hw53 => kernel_rfl
            (try change wpAnyH _ _ _ _ _ _ _ (Act.put _ (some 56) _) _)
            try simp only [Act.put, List.setIfInBounds_toArray, List.set_cons_zero, List.set_cons_succ]
            refine' wpAnyH_take (i := 20) (oi := _) (v := undef) rfl ?hs54 ?hf54 ?hr54 ?hQ54 (Or.inr ⟨?hw54, rfl⟩) hHeld ?rest54
            case hs54 => kernel_rfl
            case hf54 => kernel_rfl
            case hr54 => kernel_rfl
            case hQ54 => exact fun _ _ _ h => h
            case hw54 => kernel_rfl
            (try change wpAnyH _ _ _ _ _ _ _ (Act.put _ (some 57) _) _)
            try simp only [Act.put, List.setIfInBounds_toArray, List.set_cons_zero, List.set_cons_succ]
            refine' wpAnyH_take (i := 21) (oi := _) (v := undef) rfl ?hs55 ?hf55 ?hr55 ?hQ55 (Or.inr ⟨?hw55, rfl⟩) hHeld ?rest55
            case hs55 => kernel_rfl
            case hf55 => kernel_rfl
            case hr55 => kernel_rfl
            case hQ55 => exact fun _ _ _ h => h
            case hw55 => kernel_rfl
            (try change wpAnyH _ _ _ _ _ _ _ (Act.put _ (some 58) _) _)
            try simp only [Act.put, List.setIfInBounds_toArray, List.set_cons_zero, List.set_cons_succ]
            refine' wpAnyH_take (i := 22) (oi := _) (v := undef) rfl ?hs56 ?hf56 ?hr56 ?hQ56 (Or.inr ⟨?hw56, rfl⟩) hHeld ?rest56
            case hs56 => kernel_rfl
            case hf56 => kernel_rfl
            case hr56 => kernel_rfl
            case hQ56 => exact fun _ _ _ h => h
            case hw56 => kernel_rfl
            (try change wpAnyH _ _ _ _ _ _ _ (Act.put _ (some 59) _) _)
            try simp only [Act.put, List.setIfInBounds_toArray, List.set_cons_zero, List.set_cons_succ]
            refine' wpAnyH_take (i := 23) (oi := _) (v := undef) rfl ?hs57 ?hf57 ?hr57 ?hQ57 (Or.inr ⟨?hw57, rfl⟩) hHeld ?rest57
            case hs57 => kernel_rfl
            case hf57 => kernel_rfl
            case hr57 => kernel_rfl
            case hQ57 => exact fun _ _ _ h => h
            case hw57 => kernel_rfl
            (try change wpAnyH _ _ _ _ _ _ _ (Act.put _ (some 60) _) _)
            try simp only [Act.put, List.setIfInBounds_toArray, List.set_cons_zero, List.set_cons_succ]
            refine' wpAnyH_take (i := 24) (oi := _) (v := undef) rfl ?hs58 ?hf58 ?hr58 ?hQ58 (Or.inr ⟨?hw58, rfl⟩) hHeld ?rest58
            case hs58 => kernel_rfl
            case hf58 => kernel_rfl
            case hr58 => kernel_rfl
            case hQ58 => exact fun _ _ _ h => h
            case hw58 => kernel_rfl
            (try change wpAnyH _ _ _ _ _ _ _ (Act.put _ (some 61) _) _)
            try simp only [Act.put, List.setIfInBounds_toArray, List.set_cons_zero, List.set_cons_succ]
            refine' wpAnyH_take (i := 25) (oi := _) (v := undef) rfl ?hs59 ?hf59 ?hr59 ?hQ59 (Or.inr ⟨?hw59, rfl⟩) hHeld ?rest59
            case hs59 => kernel_rfl
            case hf59 => kernel_rfl
            case hr59 => kernel_rfl
            case hQ59 => exact fun _ _ _ h => h
            case hw59 => kernel_rfl
            (try change wpAnyH _ _ _ _ _ _ _ (Act.put _ (some 62) _) _)
            try simp only [Act.put, List.setIfInBounds_toArray, List.set_cons_zero, List.set_cons_succ]
            refine' wpAnyH_take (i := 26) (oi := _) (v := undef) rfl ?hs60 ?hf60 ?hr60 ?hQ60 (Or.inr ⟨?hw60, rfl⟩) hHeld ?rest60
            case hs60 => kernel_rfl
            case hf60 => kernel_rfl
            case hr60 => kernel_rfl
            case hQ60 => exact fun _ _ _ h => h
            case hw60 => kernel_rfl
            (try change wpAnyH _ _ _ _ _ _ _ (Act.put _ (some 63) _) _)
            try simp only [Act.put, List.setIfInBounds_toArray, List.set_cons_zero, List.set_cons_succ]
            refine' wpAnyH_take (i := 27) (oi := _) (v := undef) rfl ?hs61 ?hf61 ?hr61 ?hQ61 (Or.inr ⟨?hw61, rfl⟩) hHeld ?rest61
            case hs61 => kernel_rfl
            case hf61 => kernel_rfl
            case hr61 => kernel_rfl
            case hQ61 => exact fun _ _ _ h => h
            case hw61 => kernel_rfl
            (try change wpAnyH _ _ _ _ _ _ _ (Act.put _ (some 64) _) _)
            try simp only [Act.put, List.setIfInBounds_toArray, List.set_cons_zero, List.set_cons_succ]
            refine' wpAnyH_take (i := 28) (oi := _) (v := undef) rfl ?hs62 ?hf62 ?hr62 ?hQ62 (Or.inr ⟨?hw62, rfl⟩) hHeld ?rest62
            case hs62 => kernel_rfl
            case hf62 => kernel_rfl
            case hr62 => kernel_rfl
            case hQ62 => exact fun _ _ _ h => h
            case hw62 => kernel_rfl
            (try change wpAnyH _ _ _ _ _ _ _ (Act.put _ (some 65) _) _)
            try simp only [Act.put, List.setIfInBounds_toArray, List.set_cons_zero, List.set_cons_succ]
            refine' wpAnyH_take (i := 29) (oi := _) (v := undef) rfl ?hs63 ?hf63 ?hr63 ?hQ63 (Or.inr ⟨?hw63, rfl⟩) hHeld ?rest63
            case hs63 => kernel_rfl
            case hf63 => kernel_rfl
            case hr63 => kernel_rfl
            case hQ63 => exact fun _ _ _ h => h
            case hw63 => kernel_rfl
            (try change wpAnyH _ _ _ _ _ _ _ (Act.put _ (some 66) _) _)
            try simp only [Act.put, List.setIfInBounds_toArray, List.set_cons_zero, List.set_cons_succ]
            refine' wpAnyH_take (i := 30) (oi := _) (v := undef) rfl ?hs64 ?hf64 ?hr64 ?hQ64 (Or.inr ⟨?hw64, rfl⟩) hHeld ?rest64
            case hs64 => kernel_rfl
            case hf64 => kernel_rfl
            case hr64 => kernel_rfl
            case hQ64 => exact fun _ _ _ h => h
            case hw64 => kernel_rfl
            (try change wpAnyH _ _ _ _ _ _ _ (Act.put _ (some 67) _) _)
            try simp only [Act.put, List.setIfInBounds_toArray, List.set_cons_zero, List.set_cons_succ]
            refine' wpAnyH_take (i := 31) (oi := _) (v := undef) rfl ?hs65 ?hf65 ?hr65 ?hQ65 (Or.inr ⟨?hw65, rfl⟩) hHeld ?rest65
            case hs65 => kernel_rfl
            case hf65 => kernel_rfl
            case hr65 => kernel_rfl
            case hQ65 => exact fun _ _ _ h => h
            case hw65 => kernel_rfl
            (try change wpAnyH _ _ _ _ _ _ _ (Act.put _ (some 68) _) _)
            try simp only [Act.put, List.setIfInBounds_toArray, List.set_cons_zero, List.set_cons_succ]
            refine' wpAnyH_take (i := 32) (oi := _) (v := undef) rfl ?hs66 ?hf66 ?hr66 ?hQ66 (Or.inr ⟨?hw66, rfl⟩) hHeld ?rest66
            case hs66 => kernel_rfl
            case hf66 => kernel_rfl
            case hr66 => kernel_rfl
            case hQ66 => exact fun _ _ _ h => h
            case hw66 => kernel_rfl
            (try change wpAnyH _ _ _ _ _ _ _ (Act.put _ (some 69) _) _)
            try simp only [Act.put, List.setIfInBounds_toArray, List.set_cons_zero, List.set_cons_succ]
            refine' wpAnyH_take (i := 33) (oi := _) (v := undef) rfl ?hs67 ?hf67 ?hr67 ?hQ67 (Or.inr ⟨?hw67, rfl⟩) hHeld ?rest67
            case hs67 => kernel_rfl
            case hf67 => kernel_rfl
            case hr67 => kernel_rfl
            case hQ67 => exact fun _ _ _ h => h
            case hw67 => kernel_rfl
            (try change wpAnyH _ _ _ _ _ _ _ (Act.put _ (some 70) _) _)
            try simp only [Act.put, List.setIfInBounds_toArray, List.set_cons_zero, List.set_cons_succ]
            refine' wpAnyH_take (i := 34) (oi := _) (v := ?v68) rfl ?hs68 ?hf68 ?hr68 ?hQ68 (Or.inl ⟨?hw68, ?hy68⟩) hHeld ?rest68
            case hs68 => kernel_rfl
            case hf68 => kernel_rfl
            case hr68 => kernel_rfl
            case hQ68 => exact fun _ _ _ h => h
            case hw68 => kernel_rfl
            case hy68 => (intro w' hw'; go_simp; try with_reducible rfl)
            (try change wpAnyH _ _ _ _ _ _ _ (Act.put _ (some 71) _) _)
            try simp only [Act.put, List.setIfInBounds_toArray, List.set_cons_zero, List.set_cons_succ]
            refine wpAnyH_done ?hdone69 ?hq69 _
            case hdone69 => kernel_rfl
            go_wp2_with fail
            go_meet
            exact ⟨by rw [HRO.out]; first | rfl | simp, hHeld⟩
          · refine' wpAnyH_take (i := 0) (oi := _) (v := ?v70) rfl ?hs70 ?hf70 ?hr70 ?hQ70 (Or.inl ⟨?hw70, ?hy70⟩) hHeld ?rest70
            case hs70 => kernel_rfl
            case hf70 => kernel_rfl
            case hr70 => kernel_rfl
            case hQ70 => exact fun _ _ _ h => h
            case hw70 => kernel_rfl
            case hy70 => (intro w' hw'; go_simp; try with_reducible rfl)
            (try change wpAnyH _ _ _ _ _ _ _ (Act.put _ (some 37) _) _)
            try simp only [Act.put, List.setIfInBounds_toArray, List.set_cons_zero, List.set_cons_succ]
            refine' wpAnyH_take (i := 1) (oi := _) (v := ?v71) rfl ?hs71 ?hf71 ?hr71 ?hQ71 (Or.inl ⟨?hw71, ?hy71⟩) hHeld ?rest71
            case hs71 => kernel_rfl
            case hf71 => kernel_rfl
            case hr71 => kernel_rfl
            case hQ71 => exact fun _ _ _ h => h
            case hw71 => kernel_rfl
            case hy71 => (intro w' hw'; have c0 := HB0.out _ hw'; have c1' := HB1'.out _ hw'; have c2' := HB2.out _ hw'; have c3' := HB3.out _ hw'; have c4' := HC2.out _ hw'; have c5' := HC3.out _ hw'; go_simp; try with_reducible rfl)
            (try change wpAnyH _ _ _ _ _ _ _ (Act.put _ (some 38) _) _)
            try simp only [Act.put, List.setIfInBounds_toArray, List.set_cons_zero, List.set_cons_succ]
            refine' wpAnyH_take (i := 2) (oi := _) (v := ?v72) rfl ?hs72 ?hf72 ?hr72 ?hQ72 (Or.inl ⟨?hw72, ?hy72⟩) hHeld ?rest72
            case hs72 => kernel_rfl
            case hf72 => kernel_rfl
            case hr72 => kernel_rfl
            case hQ72 => exact fun _ _ _ h => h
            case hw72 => kernel_rfl
            case hy72 => (intro w' hw'; go_simp; try with_reducible rfl)
            (try change wpAnyH _ _ _ _ _ _ _ (Act.put _ (some 39) _) _)
            try simp only [Act.put, List.setIfInBounds_toArray, List.set_cons_zero, List.set_cons_succ]
            refine' wpAnyH_take (i := 3) (oi := _) (v := ?v73) rfl ?hs73 ?hf73 ?hr73 ?hQ73 (Or.inl ⟨?hw73, ?hy73⟩) hHeld ?rest73
            case hs73 => kernel_rfl
            case hf73 => kernel_rfl
            case hr73 => kernel_rfl
            case hQ73 => exact fun _ _ _ h => h
            case hw73 => kernel_rfl
            case hy73 => (intro w' hw'; go_simp; try with_reducible rfl)
            (try change wpAnyH _ _ _ _ _ _ _ (Act.put _ (some 40) _) _)
            try simp only [Act.put, List.setIfInBounds_toArray, List.set_cons_zero, List.set_cons_succ]
            refine' wpAnyH_take (i := 4) (oi := _) (v := ?v74) rfl ?hs74 ?hf74 ?hr74 ?hQ74 (Or.inl ⟨?hw74, ?hy74⟩) hHeld ?rest74
            case hs74 => kernel_rfl
            case hf74 => kernel_rfl
            case hr74 => kernel_rfl
            case hQ74 => exact fun _ _ _ h => h
            case hw74 => kernel_rfl
            case hy74 => (intro w' hw'; have c0 := HB0.out _ hw'; have c1' := HB1'.out _ hw'; have c2' := HB2.out _ hw'; have c3' := HB3.out _ hw'; have c4' := HC2.out _ hw'; have c5' := HC3.out _ hw'; go_simp; try with_reducible rfl)
            (try change wpAnyH _ _ _ _ _ _ _ (Act.put _ (some 41) _) _)
            try simp only [Act.put, List.setIfInBounds_toArray, List.set_cons_zero, List.set_cons_succ]
            refine' wpAnyH_take (i := 6) (oi := _) (v := ?v75) rfl ?hs75 ?hf75 ?hr75 ?hQ75 (Or.inl ⟨?hw75, ?hy75⟩) hHeld ?rest75
            case hs75 => kernel_rfl
            case hf75 => kernel_rfl
            case hr75 => kernel_rfl
            case hQ75 => exact fun _ _ _ h => h
            case hw75 => kernel_rfl
            case hy75 => (intro w' hw'; go_simp; try with_reducible rfl)
            (try change wpAnyH _ _ _ _ _ _ _ (Act.put _ (some 43) _) _)
            try simp only [Act.put, List.setIfInBounds_toArray, List.set_cons_zero, List.set_cons_succ]
            refine' wpAnyH_take (i := 7) (oi := _) (v := ?v76) rfl ?hs76 ?hf76 ?hr76 ?hQ76 (Or.inl ⟨?hw76, ?hy76⟩) hHeld ?rest76
            case hs76 => kernel_rfl
            case hf76 => kernel_rfl
            case hr76 => kernel_rfl
            case hQ76 => exact fun _ _ _ h => h
            case hw76 => kernel_rfl
            case hy76 => (intro w' hw'; have c0 := HB0.out _ hw'; have c1' := HB1'.out _ hw'; have c2' := HB2.out _ hw'; have c3' := HB3.out _ hw'; have c4' := HC2.out _ hw'; have c5' := HC3.out _ hw'; go_simp; try with_reducible rfl)
            (try change wpAnyH _ _ _ _ _ _ _ (Act.put _ (some 44) _) _)
            try simp only [Act.put, List.setIfInBounds_toArray, List.set_cons_zero, List.set_cons_succ]
            refine wpAnyH_ready (rs := [5]) (by kernel_rfl) (by simp) ?_
            refine AllReadyH.cons rfl (fun K hK => ?_) AllReadyH.nil
            go_simp
            go_at_call 87; refine (HIN.out _ hHeld).mono ?_; rintro e wa ⟨rfl, hba⟩; have hbe := below_step hHeld hba; clear hba
            (try go_wp2_with fail)
            refine hK.out _ _ hbe (fun hHeld => ?_)
            clear hK K
            try simp only [Act.put, List.setIfInBounds_toArray, List.set_cons_zero, List.set_cons_succ]
            refine' wpAnyH_take (i := 8) (oi := _) (v := ?v77) rfl ?hs77 ?hf77 ?hr77 ?hQ77 (Or.inl ⟨?hw77, ?hy77⟩) hHeld ?rest77
            case hs77 => kernel_rfl
            case hf77 => kernel_rfl
            case hr77 => kernel_rfl
            case hQ77 => exact fun _ _ _ h => h
            case hw77 => kernel_rfl
            case hy77 => (intro w' hw'; go_simp; try with_reducible rfl)
            (try change wpAnyH _ _ _ _ _ _ _ (Act.put _ (some 45) _) _)
            try simp only [Act.put, List.setIfInBounds_toArray, List.set_cons_zero, List.set_cons_succ]
            refine' wpAnyH_take (i := 9) (oi := _) (v := ?v78) rfl ?hs78 ?hf78 ?hr78 ?hQ78 (Or.inl ⟨?hw78, ?hy78⟩) hHeld ?rest78
            case hs78 => kernel_rfl
            case hf78 => kernel_rfl
            case hr78 => kernel_rfl
            case hQ78 => exact fun _ _ _ h => h
            case hw78 => kernel_rfl
            case hy78 => (intro w' hw'; go_simp; try with_reducible rfl)
            (try change wpAnyH _ _ _ _ _ _ _ (Act.put _ (some 46) _) _)
            try simp only [Act.put, List.setIfInBounds_toArray, List.set_cons_zero, List.set_cons_succ]
            refine' wpAnyH_take (i := 10) (oi := _) (v := ?v79) rfl ?hs79 ?hf79 ?hr79 ?hQ79 (Or.inl ⟨?hw79, ?hy79⟩) hHeld ?rest79
            case hs79 => kernel_rfl
            case hf79 => kernel_rfl
            case hr79 => kernel_rfl
            case hQ79 => exact fun _ _ _ h => h
            case hw79 => kernel_rfl
            case hy79 => (intro w' hw'; go_simp; try with_reducible rfl)
            (try change wpAnyH _ _ _ _ _ _ _ (Act.put _ (some 47) _) _)
            try simp only [Act.put, List.setIfInBounds_toArray, List.set_cons_zero, List.set_cons_succ]
            refine' wpAnyH_take (i := 11) (oi := _) (v := ?v80) rfl ?hs80 ?hf80 ?hr80 ?hQ80 (Or.inl ⟨?hw80, ?hy80⟩) hHeld ?rest80
            case hs80 => kernel_rfl
            case hf80 => kernel_rfl
            case hr80 => kernel_rfl
            case hQ80 => exact fun _ _ _ h => h
            case hw80 => kernel_rfl
            case hy80 => (intro w' hw'; have c0 := HB0.out _ hw'; have c1' := HB1'.out _ hw'; have c2' := HB2.out _ hw'; have c3' := HB3.out _ hw'; have c4' := HC2.out _ hw'; have c5' := HC3.out _ hw'; go_simp; try with_reducible rfl)
            (try change wpAnyH _ _ _ _ _ _ _ (Act.put _ (some 48) _) _)
            try simp only [Act.put, List.setIfInBounds_toArray, List.set_cons_zero, List.set_cons_succ]
            refine' wpAnyH_take (i := 12) (oi := _) (v := ?v81) rfl ?hs81 ?hf81 ?hr81 ?hQ81 (Or.inl ⟨?hw81, ?hy81⟩) hHeld ?rest81
            case hs81 => kernel_rfl
            case hf81 => kernel_rfl
            case hr81 => kernel_rfl
            case hQ81 => exact fun _ _ _ h => h
            case hw81 => kernel_rfl
            case hy81 => (intro w' hw'; go_simp; try with_reducible rfl)
            (try change wpAnyH _ _ _ _ _ _ _ (Act.put _ (some 49) _) _)
            try simp only [Act.put, List.setIfInBounds_toArray, List.set_cons_zero, List.set_cons_succ]
            refine' wpAnyH_take (i := 13) (oi := _) (v := ?v82) rfl ?hs82 ?hf82 ?hr82 ?hQ82 (Or.inl ⟨?hw82, ?hy82⟩) hHeld ?rest82
            case hs82 => kernel_rfl
            case hf82 => kernel_rfl
            case hr82 => kernel_rfl
            case hQ82 => exact fun _ _ _ h => h
            case hw82 => kernel_rfl
            case hy82 => (intro w' hw'; go_simp; try with_reducible rfl)
            (try change wpAnyH _ _ _ _ _ _ _ (Act.put _ (some 50) _) _)
            try simp only [Act.put, List.setIfInBounds_toArray, List.set_cons_zero, List.set_cons_succ]
            refine' wpAnyH_take (i := 14) (oi := _) (v := ?v83) rfl ?hs83 ?hf83 ?hr83 ?hQ83 (Or.inl ⟨?hw83, ?hy83⟩) hHeld ?rest83
            case hs83 => kernel_rfl
            case hf83 => kernel_rfl
            case hr83 => kernel_rfl
            case hQ83 => exact fun _ _ _ h => h
            case hw83 => kernel_rfl
            case hy83 => (intro w' hw'; have c0 := HB0.out _ hw'; have c1' := HB1'.out _ hw'; have c2' := HB2.out _ hw'; have c3' := HB3.out _ hw'; have c4' := HC2.out _ hw'; have c5' := HC3.out _ hw'; go_simp; try with_reducible rfl)
            (try change wpAnyH _ _ _ _ _ _ _ (Act.put _ (some 51) _) _)
            try simp only [Act.put, List.setIfInBounds_toArray, List.set_cons_zero, List.set_cons_succ]
            refine wpAnyH_ready (rs := [15]) (by kernel_rfl) (by simp) ?_
            refine AllReadyH.cons rfl (fun K hK => ?_) AllReadyH.nil
            go_simp
            go_at_call 76; refine (HIC.out _ hHeld).mono ?_; rintro e wb ⟨rfl, hba⟩; have hbe := below_step hHeld hba; clear hba
            (try go_wp2_with fail)
            refine hK.out _ _ hbe (fun hHeld => ?_)
            clear hK K
            try simp only [Act.put, List.setIfInBounds_toArray, List.set_cons_zero, List.set_cons_succ]
            refine' wpAnyH_take (i := 16) (oi := _) (v := ?v84) rfl ?hs84 ?hf84 ?hr84 ?hQ84 (Or.inl ⟨?hw84, ?hy84⟩) hHeld ?rest84
            case hs84 => kernel_rfl
            case hf84 => kernel_rfl
            case hr84 => kernel_rfl
            case hQ84 => exact fun _ _ _ h => h
            case hw84 => kernel_rfl
            case hy84 => (intro w' hw'; go_simp; try with_reducible rfl)
            (try change wpAnyH _ _ _ _ _ _ _ (Act.put _ (some 53) _) _)
            try simp only [Act.put, List.setIfInBounds_toArray, List.set_cons_zero, List.set_cons_succ]
            refine' wpAnyH_take (i := 17) (oi := _) (v := ?v85) rfl ?hs85 ?hf85 ?hr85 ?hQ85 (Or.inl ⟨?hw85, ?hy85⟩) hHeld ?rest85
            case hs85 => kernel_rfl
            case hf85 => kernel_rfl
            case hr85 => kernel_rfl
            case hQ85 => exact fun _ _ _ h => h
            case hw85 => kernel_rfl
            case hy85 => (intro w' hw'; go_simp; try with_reducible rfl)
            (try change wpAnyH _ _ _ _ _ _ _ (Act.put _ (some 54) _) _)
            try simp only [Act.put, List.setIfInBounds_toArray, List.set_cons_zero, List.set_cons_succ]
            refine' wpAnyH_take (i := 18) (oi := _) (v := ?v86) rfl ?hs86 ?hf86 ?hr86 ?hQ86 (Or.inl ⟨?hw86, ?hy86⟩) hHeld ?rest86
            case hs86 => kernel_rfl
            case hf86 => kernel_rfl
            case hr86 => kernel_rfl
            case hQ86 => exact fun _ _ _ h => h
            case hw86 => kernel_rfl
            case hy86 => (intro w' hw'; go_simp; try with_reducible rfl)
            (try change wpAnyH _ _ _ _ _ _ _ (Act.put _ (some 55) _) _)
            try simp only [Act.put, List.setIfInBounds_toArray, List.set_cons_zero, List.set_cons_succ]
            refine' wpAnyH_take (i := 19) (oi := _) (v := ?v87) rfl ?hs87 ?hf87 ?hr87 ?hQ87 (Or.inl ⟨?hw87, ?hy87⟩) hHeld ?rest87
            case hs87 => kernel_rfl
            case hf87 => kernel_rfl
            case hr87 => kernel_rfl
            case hQ87 => exact fun _ _ _ h => h
            case hw87 => kernel_rfl
            case hy87 => (intro w' hw'; go_simp; try with_reducible rfl)
            (try change wpAnyH _ _ _ _ _ _ _ (Act.put _ (some 56) _) _)
            try simp only [Act.put, List.setIfInBounds_toArray, List.set_cons_zero, List.set_cons_succ]
            refine' wpAnyH_take (i := 20) (oi := _) (v := ?v88) rfl ?hs88 ?hf88 ?hr88 ?hQ88 (Or.inl ⟨?hw88, ?hy88⟩) hHeld ?rest88
            case hs88 => kernel_rfl
            case hf88 => kernel_rfl
            case hr88 => kernel_rfl
            case hQ88 => exact fun _ _ _ h => h
            case hw88 => kernel_rfl
            case hy88 => (intro w' hw'; have c0 := HB0.out _ hw'; have c1' := HB1'.out _ hw'; have c2' := HB2.out _ hw'; have c3' := HB3.out _ hw'; have c4' := HC2.out _ hw'; have c5' := HC3.out _ hw'; go_simp; try with_reducible rfl)
            (try change wpAnyH _ _ _ _ _ _ _ (Act.put _ (some 57) _) _)
            try simp only [Act.put, List.setIfInBounds_toArray, List.set_cons_zero, List.set_cons_succ]
            refine' wpAnyH_take (i := 21) (oi := _) (v := ?v89) rfl ?hs89 ?hf89 ?hr89 ?hQ89 (Or.inl ⟨?hw89, ?hy89⟩) hHeld ?rest89
            case hs89 => kernel_rfl
            case hf89 => kernel_rfl
            case hr89 => kernel_rfl
            case hQ89 => exact fun _ _ _ h => h
            case hw89 => kernel_rfl
            case hy89 => (intro w' hw'; go_simp; try with_reducible rfl)
            (try change wpAnyH _ _ _ _ _ _ _ (Act.put _ (some 58) _) _)
            try simp only [Act.put, List.setIfInBounds_toArray, List.set_cons_zero, List.set_cons_succ]
            refine' wpAnyH_take (i := 22) (oi := _) (v := ?v90) rfl ?hs90 ?hf90 ?hr90 ?hQ90 (Or.inl ⟨?hw90, ?hy90⟩) hHeld ?rest90
            case hs90 => kernel_rfl
            case hf90 => kernel_rfl
            case hr90 => kernel_rfl
            case hQ90 => exact fun _ _ _ h => h
            case hw90 => kernel_rfl
            case hy90 => (intro w' hw'; go_simp; try with_reducible rfl)
            (try change wpAnyH _ _ _ _ _ _ _ (Act.put _ (some 59) _) _)
            try simp only [Act.put, List.setIfInBounds_toArray, List.set_cons_zero, List.set_cons_succ]
            refine' wpAnyH_take (i := 23) (oi := _) (v := ?v91) rfl ?hs91 ?hf91 ?hr91 ?hQ91 (Or.inl ⟨?hw91, ?hy91⟩) hHeld ?rest91
            case hs91 => kernel_rfl
            case hf91 => kernel_rfl
            case hr91 => kernel_rfl
            case hQ91 => exact fun _ _ _ h => h
            case hw91 => kernel_rfl
            case hy91 => (intro w' hw'; have c0 := HB0.out _ hw'; have c1' := HB1'.out _ hw'; have c2' := HB2.out _ hw'; have c3' := HB3.out _ hw'; have c4' := HC2.out _ hw'; have c5' := HC3.out _ hw'; go_simp; try with_reducible rfl)
            (try change wpAnyH _ _ _ _ _ _ _ (Act.put _ (some 60) _) _)
            try simp only [Act.put, List.setIfInBounds_toArray, List.set_cons_zero, List.set_cons_succ]
            refine' wpAnyH_take (i := 24) (oi := _) (v := ?v92) rfl ?hs92 ?hf92 ?hr92 ?hQ92 (Or.inl ⟨?hw92, ?hy92⟩) hHeld ?rest92
            case hs92 => kernel_rfl
            case hf92 => kernel_rfl
            case hr92 => kernel_rfl
            case hQ92 => exact fun _ _ _ h => h
            case hw92 => kernel_rfl
            case hy92 => (intro w' hw'; go_simp; try with_reducible rfl)
            (try change wpAnyH _ _ _ _ _ _ _ (Act.put _ (some 61) _) _)
            try simp only [Act.put, List.setIfInBounds_toArray, List.set_cons_zero, List.set_cons_succ]
            refine' wpAnyH_take (i := 25) (oi := _) (v := ?v93) rfl ?hs93 ?hf93 ?hr93 ?hQ93 (Or.inl ⟨?hw93, ?hy93⟩) hHeld ?rest93
            case hs93 => kernel_rfl
            case hf93 => kernel_rfl
            case hr93 => kernel_rfl
            case hQ93 => exact fun _ _ _ h => h
            case hw93 => kernel_rfl
            case hy93 => (intro w' hw'; have c0 := HB0.out _ hw'; have c1' := HB1'.out _ hw'; have c2' := HB2.out _ hw'; have c3' := HB3.out _ hw'; have c4' := HC2.out _ hw'; have c5' := HC3.out _ hw'; go_simp; try with_reducible rfl)
            (try change wpAnyH _ _ _ _ _ _ _ (Act.put _ (some 62) _) _)
            try simp only [Act.put, List.setIfInBounds_toArray, List.set_cons_zero, List.set_cons_succ]
            refine' wpAnyH_take (i := 26) (oi := _) (v := ?v94) rfl ?hs94 ?hf94 ?hr94 ?hQ94 (Or.inl ⟨?hw94, ?hy94⟩) hHeld ?rest94
            case hs94 => kernel_rfl
            case hf94 => kernel_rfl
            case hr94 => kernel_rfl
            case hQ94 => exact fun _ _ _ h => h
            case hw94 => kernel_rfl
            case hy94 => (intro w' hw'; go_simp; try with_reducible rfl)
            (try change wpAnyH _ _ _ _ _ _ _ (Act.put _ (some 63) _) _)
            try simp only [Act.put, List.setIfInBounds_toArray, List.set_cons_zero, List.set_cons_succ]
            refine' wpAnyH_take (i := 27) (oi := _) (v := ?v95) rfl ?hs95 ?hf95 ?hr95 ?hQ95 (Or.inl ⟨?hw95, ?hy95⟩) hHeld ?rest95
            case hs95 => kernel_rfl
            case hf95 => kernel_rfl
            case hr95 => kernel_rfl
            case hQ95 => exact fun _ _ _ h => h
            case hw95 => kernel_rfl
            case hy95 => (intro w' hw'; have c0 := HB0.out _ hw'; have c1' := HB1'.out _ hw'; have c2' := HB2.out _ hw'; have c3' := HB3.out _ hw'; have c4' := HC2.out _ hw'; have c5' := HC3.out _ hw'; go_simp; try with_reducible rfl)
            (try change wpAnyH _ _ _ _ _ _ _ (Act.put _ (some 64) _) _)
            try simp only [Act.put, List.setIfInBounds_toArray, List.set_cons_zero, List.set_cons_succ]
            refine' wpAnyH_take (i := 28) (oi := _) (v := ?v96) rfl ?hs96 ?hf96 ?hr96 ?hQ96 (Or.inl ⟨?hw96, ?hy96⟩) hHeld ?rest96
            case hs96 => kernel_rfl
            case hf96 => kernel_rfl
            case hr96 => kernel_rfl
            case hQ96 => exact fun _ _ _ h => h
            case hw96 => kernel_rfl
            case hy96 => (intro w' hw'; go_simp; try with_reducible rfl)
            (try change wpAnyH _ _ _ _ _ _ _ (Act.put _ (some 65) _) _)
            try simp only [Act.put, List.setIfInBounds_toArray, List.set_cons_zero, List.set_cons_succ]
            refine' wpAnyH_take (i := 29) (oi := _) (v := ?v97) rfl ?hs97 ?hf97 ?hr97 ?hQ97 (Or.inl ⟨?hw97, ?hy97⟩) hHeld ?rest97
            case hs97 => kernel_rfl
            case hf97 => kernel_rfl
            case hr97 => kernel_rfl
            case hQ97 => exact fun _ _ _ h => h
            case hw97 => kernel_rfl
            case hy97 => (intro w' hw'; go_simp; try with_reducible rfl)
            (try change wpAnyH _ _ _ _ _ _ _ (Act.put _ (some 66) _) _)
            try simp only [Act.put, List.setIfInBounds_toArray, List.set_cons_zero, List.set_cons_succ]
            refine' wpAnyH_take (i := 30) (oi := _) (v := ?v98) rfl ?hs98 ?hf98 ?hr98 ?hQ98 (Or.inl ⟨?hw98, ?hy98⟩) hHeld ?rest98
            case hs98 => kernel_rfl
            case hf98 => kernel_rfl
            case hr98 => kernel_rfl
            case hQ98 => exact fun _ _ _ h => h
            case hw98 => kernel_rfl
            case hy98 => (intro w' hw'; have c0 := HB0.out _ hw'; have c1' := HB1'.out _ hw'; have c2' := HB2.out _ hw'; have c3' := HB3.out _ hw'; have c4' := HC2.out _ hw'; have c5' := HC3.out _ hw'; go_simp; try with_reducible rfl)
            (try change wpAnyH _ _ _ _ _ _ _ (Act.put _ (some 67) _) _)
            try simp only [Act.put, List.setIfInBounds_toArray, List.set_cons_zero, List.set_cons_succ]
            refine wpAnyH_ready (rs := [31]) (by kernel_rfl) (by simp) ?_
            refine AllReadyH.cons rfl (fun K hK => ?_) AllReadyH.nil
            go_simp
            go_at_call 34; refine (HPF.out _ hHeld).mono ?_; rintro e wc ⟨uc, rfl, hrc, hba⟩; have HRC := Lib.hid hrc.weak; have hbe := below_step hHeld hba; clear hba hrc
            (try go_wp2_with fail)
            refine hK.out _ _ hbe (fun hHeld => ?_)
            clear hK K
            try simp only [Act.put, List.setIfInBounds_toArray, List.set_cons_zero, List.set_cons_succ]
            refine wpAnyH_ready (rs := [32]) (by kernel_rfl) (by simp) ?_
            refine AllReadyH.cons rfl (fun K hK => ?_) AllReadyH.nil
            go_simp
            go_at_call 88; refine (HSE.out _ _ _ hHeld HRC.out).mono ?_; rintro e wd ⟨rfl, hba⟩; have hbe := below_step hHeld hba; clear hba
            (try go_wp2_with fail)
            refine hK.out _ _ hbe (fun hHeld => ?_)
            clear hK K
            try simp only [Act.put, List.setIfInBounds_toArray, List.set_cons_zero, List.set_cons_succ]
            refine' wpAnyH_take (i := 33) (oi := _) (v := ?v99) rfl ?hs99 ?hf99 ?hr99 ?hQ99 (Or.inl ⟨?hw99, ?hy99⟩) hHeld ?rest99
            case hs99 => kernel_rfl
            case hf99 => kernel_rfl
            case hr99 => kernel_rfl
            case hQ99 => exact fun _ _ _ h => h
            case hw99 => kernel_rfl
            case hy99 => (intro w' hw'; go_simp; try with_reducible rfl)
            (try change wpAnyH _ _ _ _ _ _ _ (Act.put _ (some 70) _) _)
            try simp only [Act.put, List.setIfInBounds_toArray, List.set_cons_zero, List.set_cons_succ]
            refine' wpAnyH_take (i := 34) (oi := _) (v := ?v100) rfl ?hs100 ?hf100 ?hr100 ?hQ100 (Or.inl ⟨?hw100, ?hy100⟩) hHeld ?rest100
            case hs100 => kernel_rfl
            case hf100 => kernel_rfl
            case hr100 => kernel_rfl
            case hQ100 => exact fun _ _ _ h => h
            case hw100 => kernel_rfl
            case hy100 => (intro w' hw'; go_simp; try with_reducible rfl)
            (try change wpAnyH _ _ _ _ _ _ _ (Act.put _ (some 71) _) _)
            try simp only [Act.put, List.setIfInBounds_toArray, List.set_cons_zero, List.set_cons_succ]
            refine wpAnyH_done ?hdone101 ?hq101 _
            case hdone101 => kernel_rfl
            go_wp2_with fail
            go_meet
            exact ⟨by rw [HRO.out]; first | rfl | simp, hHeld⟩
      case rest =>
        obtain ⟨rfl, hbw⟩ := hcut
        have HBW := Lib.hid hbw
        clear hbw
        cases hrk : rowAt x k with
        | false =>
          have HN := Lib.hid (HBD2.out hrk)
          go_wp2_with fail
          go_ret
          exact ⟨ret_bool HN.out.symm, HW.out _ HBW.out⟩
        | true =>
          have HAL : Hid (∀ j, j < k + 1 → rowAt x j = true) := fun j hj => by
            by_cases e : j = k
            · subst e; exact hrk
            · exact hall.out j (by omega)
          go_wp2
          go_roundw
          case rel => exact ⟨k + 1, by omega, by go_num, HAL.out, HBX.out.kept HBW.out, HW.out _ HBW.out⟩
          case measure => simp [intOf]; omega
    · obtain rfl : k = x.Rows.length := by omega
      have HN := Lib.hid (HGD.out HHT.out hall.out)
      have b2 := HBX.out.cell 2 rfl
      go_wp2
      go_ret
      exact ⟨ret_bool HN.out.symm, HB.out⟩
end Go.Proofs.YtkaihnlknncfdaaGreatDoor

/- Winners: the model's WinnersOf: what it answers. -/
namespace Go.Proofs.YtkaihnlknncfdaaGreatDoor
set_option maxRecDepth 100000
open Go.RowKit Go.Sort M
set_option linter.unusedVariables false
set_option linter.unusedSimpArgs false

set_option maxHeartbeats 8000000 in
theorem specWin_any (x : DTableau) (r : List Int) (A1 : Option Addr) (c1 : Nat) (A2 : Option Addr) (c2 : Nat) (A3 : Option Addr) (c3 : Nat) (vr : Value) (F1 F2 F3 Fr : Addr → Prop) (w : World) (hm : rTableau.sz x ≤ 1048576) (hv : TabRd false w (.slice A1 x.Names.length c1) (.slice A2 x.Rows.length c2) (.slice A3 x.Marks.length c3) x F1 F2 F3) (hvr : RowRd Rep.int false w vr r Fr) :
    Calls Tryz.prog 13 #[.agg #[.string x.Input, .slice A1 x.Names.length c1, .slice A2 x.Rows.length c2, .slice A3 x.Marks.length c3], vr] w (IntPost11 (winW x r) w) := by
  obtain ⟨hz0, hz1, hz2, hz3, hz4, hz5⟩ := szTab_parts hm
  have hmr := hvr.max
  obtain ⟨Ar, kr, rfl⟩ := hvr.form
  have HV := Lib.hid hv
  have HR := Lib.hid hvr
  have HIT : Hid (∀ W, Below w.heap.size w W → Calls Tryz.prog 40 #[.agg #[.string x.Input, .slice A1 x.Names.length c1, .slice A2 x.Rows.length c2, .slice A3 x.Marks.length c3]] W fun e w' => e = .returned (.bool (isTab x)) ∧ Below W.heap.size W w') := fun W hW => specTab_any x A1 c1 A2 c2 A3 c3 F1 F2 F3 W hm (hv.kept hW)
  have HRK : Hid (∀ W, Below w.heap.size w W → Calls Tryz.prog 50 #[.slice Ar r.length kr, .int .i64 (x.Names.length : Int)] W fun e w' => e = .returned (.bool (rkB r x.Names.length)) ∧ Below W.heap.size W w') := fun W hW => specRk_any r (x.Names.length : Int) _ Fr W (by unfold I64; omega) (hvr.kept hW)
  have HP : Hid (∀ u w', RowRd Rep.int true w' u (winW x r) (fun a => w.heap.size ≤ a.block) → Below w.heap.size w w' → IntPost11 (winW x r) w (.returned u) w') := fun u w' h1 h2 => ⟨u, rfl, h1, h2⟩
  have HN : Hid ((isTab x && rkB r x.Names.length) = false → winW x r = []) := winW_no
  have HY : Hid (isTab x = true → rkB r x.Names.length = true → winW x r = winTo x.Marks r x.Marks.length ∧ x.Marks.length = x.Rows.length) := fun h1 h2 => ⟨winW_yes h1 h2, (headT_parts (headT_of h1)).2.2.2.2⟩
  have HCV : Hid (isTab x = true → rkB r x.Names.length = true → ∀ (i k : Nat) (a b : List Int), x.Marks[i]? = some a → x.Marks[k]? = some b → cmpV a b r = cmpL (x.Marks.getD i []) (x.Marks.getD k []) r) := fun h1 h2 i k a b hi hk => cmpV_tab h1 h2 hi hk
  have HX3 : Hid (∀ k, k < x.Marks.length → ∃ y, x.Marks[k]? = some y) := fun k hk => ⟨_, List.getElem?_eq_getElem hk⟩
  have HWL := Lib.hid (winTo_len x.Marks r)
  have HW6 : Hid (∀ k, k ≤ 1000000000 → ∀ z ∈ winTo x.Marks r k, I64 z) := fun k hk => win_i64 hk
  have HWY : Hid (∀ k, okK x.Marks r k x.Marks.length = true → winTo x.Marks r (k + 1) = winTo x.Marks r k ++ [(k : Int)]) := fun k h => winTo_yes h
  have HWN : Hid (∀ k, okK x.Marks r k x.Marks.length = false → winTo x.Marks r (k + 1) = winTo x.Marks r k) := fun k h => winTo_no h
  have HOS := Lib.hid (okK_succ x.Marks r)
  have HOM : Hid (∀ i j, j ≤ x.Marks.length → okK x.Marks r i j = false → okK x.Marks r i x.Marks.length = false) := fun i j h1 h2 => okK_mono h1 h2
  have HA1 : Hid (InC ((w.alloc (.cells #[.string x.Input, .slice A1 x.Names.length c1, .slice A2 x.Rows.length c2, .slice A3 x.Marks.length c3] 32)).alloc (.cells #[] 3)) w.heap.size #[.string x.Input, .slice A1 x.Names.length c1, .slice A2 x.Rows.length c2, .slice A3 x.Marks.length c3] 32) := (heap_alloc_old _ _ (by simp)).trans (heap_alloc_new _ _)
  have HO0 : Hid (((w.alloc (.cells #[.string x.Input, .slice A1 x.Names.length c1, .slice A2 x.Rows.length c2, .slice A3 x.Marks.length c3] 32)).alloc (.cells #[] 3)).ownsRow (w.heap.size + 1) 3 1 (.slice (some ⟨w.heap.size + 1, 0, none⟩) 0 0) (winTo x.Marks r 0).length (cellsI (winTo x.Marks r 0))) := ⟨rfl, Or.inr ⟨w.heap.size + 1, 0, #[], rfl, Nat.le_refl _, by rw [show w.heap.size + 1 = (w.alloc (.cells #[.string x.Input, .slice A1 x.Names.length c1, .slice A2 x.Rows.length c2, .slice A3 x.Marks.length c3] 32)).heap.size from by simp]; exact heap_alloc_new _ _, Nat.le_refl _, Nat.zero_le _, by simp, by simp [cellsI, winTo]⟩⟩
  have HB0 : Hid (Below w.heap.size w ((w.alloc (.cells #[.string x.Input, .slice A1 x.Names.length c1, .slice A2 x.Rows.length c2, .slice A3 x.Marks.length c3] 32)).alloc (.cells #[] 3))) := ((Below.refl _ _).alloc (Nat.le_refl _) _).alloc (by simp) _
  have HS1 : Hid (w.heap.size + 1 ≤ ((w.alloc (.cells #[.string x.Input, .slice A1 x.Names.length c1, .slice A2 x.Rows.length c2, .slice A3 x.Marks.length c3] 32)).alloc (.cells #[] 3)).heap.size) := by unfold Hid; simp
  clear hv hvr hm hz4 hz5
  generalize winW x r = R at *
  generalize htab : isTab x = tb at *
  generalize hrkb : rkB r (x.Names.length : Int) = rb at *
  clear htab hrkb
  have b0 := HA1.out.cell 0 rfl
  have b1 := HA1.out.cell 1 rfl
  have b2 := HA1.out.cell 2 rfl
  have b3 := HA1.out.cell 3 rfl
  go_enter Tryz.func13, Tryz.ntmps13
  go_wp2_with fail
  refine (HIT.out _ HB0.out).mono ?_
  rintro e w2 ⟨rfl, hb2⟩
  have HB2 := Lib.hid (below_step HB0.out hb2)
  have HBX2 := Lib.hid (HA1.out.kept hb2)
  have HO2 := Lib.hid (own_keepI hb2 HO0.out)
  have hsz2 := Nat.le_trans HS1.out hb2.size
  clear hb2 b0 b1 b2 b3 HA1 HO0 HB0 HS1 HIT
  have HRR0 := Lib.hid ((own_ints HO2.out (by simp [winTo]) (HW6.out 0 (by omega))).mono (G := fun a => w.heap.size ≤ a.block) (fun a ha => by omega))
  cases tb
  case false =>
    have HE : Hid (R = winTo x.Marks r 0) := HN.out rfl
    go_wp2
    go_ret
    exact HP.out _ _ (by rw [HE.out]; exact HRR0.out) HB2.out
  have b1 := HBX2.out.cell 1 rfl
  go_wp2_with fail
  refine (HRK.out _ HB2.out).mono ?_
  rintro e w3 ⟨rfl, hb3⟩
  have HB3 := Lib.hid (below_step HB2.out hb3)
  have HBX3 := Lib.hid (HBX2.out.kept hb3)
  have HO3 := Lib.hid (own_keepI hb3 HO2.out)
  have hsz3 := Nat.le_trans hsz2 hb3.size
  clear hb3 b1 HRR0 HRK HB2 HBX2 HO2
  cases rb
  case false =>
    have HE : Hid (R = winTo x.Marks r 0) := HN.out (by trivial)
    have HRR0 := Lib.hid ((own_ints HO3.out (by simp [winTo]) (HW6.out 0 (by omega))).mono (G := fun a => w.heap.size ≤ a.block) (fun a ha => by omega))
    go_wp2
    go_ret
    exact HP.out _ _ (by rw [HE.out]; exact HRR0.out) HB3.out
  obtain ⟨hRR, hML⟩ := HY.out (by trivial) (by trivial)
  have HEQ := Lib.hid hRR
  have HCM := Lib.hid (HCV.out (by trivial) (by trivial))
  rw [hML] at HEQ HX3 HWY HWN HOM
  clear HN HY HCV hRR hsz2
  generalize hN : x.Rows.length = N at *
  go_wp2
  go_loopw [5, 6] (fun u i wr => ∃ (k : Nat), k ≤ N ∧ i = .int .i64 k ∧ wr.ownsRow (w.heap.size + 1) 3 1 u (winTo x.Marks r k).length (cellsI (winTo x.Marks r k)) ∧ InC wr w.heap.size #[.string x.Input, .slice A1 x.Names.length c1, .slice A2 N c2, .slice A3 x.Marks.length c3] 32 ∧ w.heap.size + 1 ≤ wr.heap.size ∧ Below w.heap.size w wr) (fun _ i _ => N - (intOf i).toNat)
  case atStart => exact ⟨0, by omega, rfl, HO3.out, HBX3.out, hsz3, HB3.out⟩
  case round =>
    obtain ⟨k, hk, rfl, hown, hbox, hsz, hbe0⟩ := hrel
    obtain ⟨w4, rfl⟩ : ∃ w4 : World, w4 = wr := ⟨_, rfl⟩
    have HB := Lib.hid hbe0
    have HBX := Lib.hid hbox
    have HOW := Lib.hid hown
    obtain ⟨Au, cu, rfl⟩ := own_formI hown
    have hwl := HWL.out k
    clear hbe0 hbox hown
    have b2 := HBX.out.cell 2 rfl
    by_cases hkl : k < N
    · obtain ⟨a, ha⟩ := HX3.out k hkl
      have hkr : (k : Int) < (N : Int) := by omega
      have hkm : (k : Int) < (x.Marks.length : Int) := by omega
      obtain ⟨g3, o3, xs3, G3, rfl, -, hr3', -, hc3⟩ := (HV.out.marks.kept HB.out).get ha
      obtain ⟨v3, rfl, q3⟩ := id hr3'
      rw [show (Rep.row Rep.int).size = 1 from rfl] at hc3
      have d3 := hc3 0 _ rfl
      simp only [Nat.add_zero, Nat.mul_one] at d3
      have HD3 := Lib.hid d3
      have HQ3 := Lib.hid q3
      have HAK := Lib.hid ha
      clear hr3' hc3 q3 d3 ha
      have HK0 : Hid (okK x.Marks r k 0 = true) := rfl
      generalize hLW : (winTo x.Marks r k).length = LW at *
      go_wp2
      go_loopw [7, 8] (fun f i wq => ∃ (j : Nat), j ≤ N ∧ i = .int .i64 j ∧ f = .bool (okK x.Marks r k j) ∧ Below w4.heap.size w4 wq) (fun _ i _ => N - (intOf i).toNat)
      case atStart => exact ⟨0, by omega, rfl, by rw [HK0.out], Below.refl _ _⟩
      case round =>
        obtain ⟨j, hj, rfl, rfl, hbi⟩ := hrel
        obtain ⟨w5, rfl⟩ : ∃ w5 : World, w5 = wr := ⟨_, rfl⟩
        have HBI := Lib.hid hbi
        clear hbi b2
        have b2 := (HBX.out.kept HBI.out).cell 2 rfl
        have b3 := (HBX.out.kept HBI.out).cell 3 rfl
        have HB5 := Lib.hid (below_step HB.out HBI.out)
        by_cases hjl : j < N
        · have hjr : (j : Int) < (N : Int) := by omega
          have hjm : (j : Int) < (x.Marks.length : Int) := by omega
          cases hbst : okK x.Marks r k j with
          | false =>
            have HNW := Lib.hid (HWN.out k (HOM.out k j hj hbst))
            have HB6 := Lib.hid HB5.out
            have HBX6 := Lib.hid (HBX.out.kept HBI.out)
            have HO6 : Hid (w5.ownsRow (w.heap.size + 1) 3 1 (.slice Au LW cu) (winTo x.Marks r (k + 1)).length (cellsI (winTo x.Marks r (k + 1)))) := by unfold Hid; rw [HNW.out, hLW]; exact own_keepI HBI.out HOW.out
            have hsz6 := Nat.le_trans hsz HBI.out.size
            go_wp2
            go_roundw
            case rel => exact ⟨k + 1, by omega, by go_num, HO6.out, HBX6.out, hsz6, HB6.out⟩
            case measure => simp [intOf]; omega
          | true =>
            obtain ⟨mb, hmb⟩ := HX3.out j hjl
            obtain ⟨g4, o4, xs4, G4, hge, -, hr4', -, hc4⟩ := (HV.out.marks.kept HB5.out).get hmb
            cases hge
            obtain ⟨v4, rfl, q4⟩ := id hr4'
            rw [show (Rep.row Rep.int).size = 1 from rfl] at hc4
            have d4 := hc4 0 _ rfl
            simp only [Nat.add_zero, Nat.mul_one] at d4
            have d3 := cell_kept HBI.out HD3.out
            have hr3 := fun d os => cell_regrown d3 d os
            have hr4 := fun d os => cell_regrown d4 d os
            have hrb := fun d os => cell_regrown b3 d os
            have HST : Hid (okK x.Marks r k (j + 1) = decide (cmpV a mb r ≤ 0)) := by unfold Hid; rw [HOS.out, hbst, HCM.out k j a mb HAK.out hmb, Bool.true_and]
            have HQ4 := Lib.hid q4
            have HH : Hid (∀ d os, Calls Tryz.prog 51 #[v3, v4, .slice Ar r.length kr] (grow (redrawn w5 d) os) fun e w'' => e = .returned (.int .i64 (cmpV a mb r)) ∧ ∃ p : Regrown, w'' = grow (redrawn w5 p.d) p.os) := fun d os =>
              Calls.regrown_of (specCm_any a mb r v3 v4 _ G3 G4 Fr _ ((HQ3.out.kept HBI.out).kept (below_regrown w5 d os)) (HQ4.out.kept (below_regrown w5 d os)) ((HR.out.kept HB5.out).kept (below_regrown w5 d os)))
            have HH2 := HH.out
            clear hr4' hc4 q4 hmb HH d3 d4
            generalize cmpV a mb r = c at *
            go_wp2
            refine wp_region_quiet_below (by kernel_rfl) (by kernel_rfl) ?_
            repeat (first | go_big_quiet_skip | quiet_step (with_reducible exact HH2 _ _))
            refine wpQuiet_nil ?_
            intro _ hw'
            obtain ⟨⟨dq, osq⟩, hw''⟩ := hw'
            subst hw''
            have HB7 := Lib.hid (HBI.out.trans ((below_regrown w5 dq osq).mono HBI.out.size))
            go_wp2
            go_roundw
            case rel => exact ⟨j + 1, by omega, by go_num, by rw [HST.out], HB7.out⟩
            case measure => simp [intOf]; omega
        · obtain rfl : j = N := by omega
          cases hbst : okK x.Marks r k j with
          | false =>
            have HNW := Lib.hid (HWN.out k (HOM.out k j hj hbst))
            have HB6 := Lib.hid HB5.out
            have HBX6 := Lib.hid (HBX.out.kept HBI.out)
            have HO6 : Hid (w5.ownsRow (w.heap.size + 1) 3 1 (.slice Au LW cu) (winTo x.Marks r (k + 1)).length (cellsI (winTo x.Marks r (k + 1)))) := by unfold Hid; rw [HNW.out, hLW]; exact own_keepI HBI.out HOW.out
            have hsz6 := Nat.le_trans hsz HBI.out.size
            go_wp2
            go_roundw
            case rel => exact ⟨k + 1, by omega, by go_num, HO6.out, HBX6.out, hsz6, HB6.out⟩
            case measure => simp [intOf]; omega
          | true =>
            have HNW := Lib.hid (HWY.out k hbst)
            have hsz5 := Nat.le_trans hsz HBI.out.size
            have HO5 := Lib.hid (own_keepI HBI.out HOW.out)
            have HBX5 := Lib.hid (HBX.out.kept HBI.out)
            have hj9 : LW ≤ 1000000000 := by omega
            go_wp2_with (at_builtin; refine wpList_append_int w5 rfl (.tmp 53) (.tmp 55) rfl (w.heap.size + 1) (.slice Au LW cu) LW (winTo x.Marks r k) rfl HO5.out (k : Int) rfl hj9 hsz5 ?_; intro v6 w6 hown6 hb6)
            have HO6 : Hid (w6.ownsRow (w.heap.size + 1) 3 1 v6 (winTo x.Marks r (k + 1)).length (cellsI (winTo x.Marks r (k + 1)))) := by unfold Hid; rw [HNW.out, List.length_append, hLW]; exact hown6
            have HBX6 := Lib.hid (HBX5.out.keptB hb6 (by omega))
            have hsz6 := Nat.le_trans hsz5 hb6.size
            have HB6 := Lib.hid (HB5.out.trans (hb6.mono (by omega)))
            obtain ⟨A6, c6, rfl⟩ := own_formI hown6
            clear hown6 hb6
            go_wp2
            go_roundw
            case rel => exact ⟨k + 1, by omega, by go_num, HO6.out, HBX6.out, hsz6, HB6.out⟩
            case measure => simp [intOf]; omega
    · obtain rfl : k = N := by omega
      have HRR := Lib.hid ((own_ints HOW.out (by omega) (HW6.out k (by omega))).mono (G := fun a => w.heap.size ≤ a.block) (fun a ha => by omega))
      go_wp2
      go_ret
      exact HP.out _ _ (by rw [HEQ.out]; exact HRR.out) HB.out
end Go.Proofs.YtkaihnlknncfdaaGreatDoor

/- Best outputs: the model's OptimalOutputs: what it answers. -/
namespace Go.Proofs.YtkaihnlknncfdaaGreatDoor
set_option maxRecDepth 100000
open Go.RowKit Go.Sort M
set_option linter.unusedVariables false
set_option linter.unusedSimpArgs false

set_option maxHeartbeats 8000000 in
theorem specOpt_any (x : DTableau) (r : List Int) (A1 : Option Addr) (c1 : Nat) (A2 : Option Addr) (c2 : Nat) (A3 : Option Addr) (c3 : Nat) (vr : Value) (F1 F2 F3 Fr : Addr → Prop) (w : World) (hm : rTableau.sz x ≤ 1048576) (hv : TabRd false w (.slice A1 x.Names.length c1) (.slice A2 x.Rows.length c2) (.slice A3 x.Marks.length c3) x F1 F2 F3) (hvr : RowRd Rep.int false w vr r Fr) :
    Calls Tryz.prog 22 #[.agg #[.string x.Input, .slice A1 x.Names.length c1, .slice A2 x.Rows.length c2, .slice A3 x.Marks.length c3], vr] w (OptPost (optL x r) w) := by
  obtain ⟨hz0, hz1, hz2, hz3, hz4, hz5⟩ := szTab_parts hm
  have HV := Lib.hid hv
  have HWI : Hid (∀ W, Below w.heap.size w W → Calls Tryz.prog 13 #[.agg #[.string x.Input, .slice A1 x.Names.length c1, .slice A2 x.Rows.length c2, .slice A3 x.Marks.length c3], vr] W (IntPost11 (winW x r) W)) := fun W hW => specWin_any x r A1 c1 A2 c2 A3 c3 vr F1 F2 F3 Fr W hm (hv.kept hW) (hvr.kept hW)
  have HWL : Hid ((winW x r).length ≤ 250) := winW_250 x r
  have HOS : Hid (∀ (c : DCandidate) (v : Value) (G : Addr → Prop) W, c.Links.length ≤ 1048576 → RowRd rLink false W v c.Links G → Calls Tryz.prog 61 #[.agg #[v]] W fun e w' => e = .returned (.string ⟨(outS c.Links).toArray⟩) ∧ Below W.heap.size W w') := fun c v G W hl hr => specOutput_any c v G W hl hr
  have HX : Hid (∀ k, k < (winW x r).length → ∃ z b c, (winW x r)[k]? = some z ∧ z = ((b : Nat) : Int) ∧ b < x.Rows.length ∧ x.Rows[b]? = some c ∧ outX x z = ⟨(outS c.Links).toArray⟩ ∧ c.Links.length ≤ 1048576) := fun k hk => by
    have h := List.getElem?_eq_getElem hk
    obtain ⟨b, c, h1, h2, h3, h4⟩ := win_row h
    exact ⟨_, b, c, h, h1, h2, h3, h4, hz4 b c h3⟩
  have HSZ : Hid (∀ k, ∀ s ∈ optTo x (winW x r) k, s.size ≤ 9223372036854775807) := optTo_size fun z hz => by
    obtain ⟨k, hk⟩ := List.mem_iff_getElem?.1 hz
    obtain ⟨b, c, _, _, h3, h4⟩ := win_row hk
    rw [h4]
    have := out_size c.Links
    have := hz4 b c h3
    omega
  have HST : Hid (∀ (k : Nat) (z : Int), (winW x r)[k]? = some z → optTo x (winW x r) (k + 1) = addNew (optTo x (winW x r) k) (outX x z)) := fun k z h => optTo_step h
  have HLN := Lib.hid (optTo_len x (winW x r))
  have H0 := Lib.hid (optTo_zero x (winW x r))
  have HEND : Hid (optTo x (winW x r) (winW x r).length = optL x r) := rfl
  have HHAS : Hid (∀ (l : List ByteArray) (v : Value) (F : Addr → Prop) (s : ByteArray) (W : World), l.length ≤ 1000000000 → RowRd (Rep.str mkT) false W v l F → Calls Tryz.prog 62 #[v, .string s] W fun e w' => e = .returned (.bool (hasB l s)) ∧ W = w') := fun l v F s W h1 h2 => specHasN_any mkT l v F s W h1 h2
  obtain ⟨i9, hi9, h9z, h9s, h9b⟩ := info_parts infoStrO12
  obtain ⟨Ar, kr, rfl⟩ := hvr.form
  clear hv hvr hm hz4 hz5
  generalize optL x r = R at *
  generalize hWW : winW x r = WW at *
  clear hWW
  have HI0 : Hid (InC ((w.alloc (.cells #[.string x.Input, .slice A1 x.Names.length c1, .slice A2 x.Rows.length c2, .slice A3 x.Marks.length c3] 32)).alloc (.cells #[] 9)) w.heap.size #[.string x.Input, .slice A1 x.Names.length c1, .slice A2 x.Rows.length c2, .slice A3 x.Marks.length c3] 32) := (heap_alloc_old _ _ (by simp)).trans (heap_alloc_new _ _)
  have HA0 : Hid (Below w.heap.size w ((w.alloc (.cells #[.string x.Input, .slice A1 x.Names.length c1, .slice A2 x.Rows.length c2, .slice A3 x.Marks.length c3] 32)).alloc (.cells #[] 9))) := ((Below.refl _ _).alloc (Nat.le_refl _) _).alloc (by simp) _
  have HO0 : Hid (OwnRd (Rep.str mkT) 9 true (w.heap.size + 1) ((w.alloc (.cells #[.string x.Input, .slice A1 x.Names.length c1, .slice A2 x.Rows.length c2, .slice A3 x.Marks.length c3] 32)).alloc (.cells #[] 9)) (.slice (some ⟨w.heap.size + 1, 0, none⟩) 0 0) ([] : List ByteArray) (fun _ => False)) := by
    have h := OwnRd.empty (E := Rep.str mkT) (e := 9) (s := true) (base := w.heap.size + 1) (w.alloc (.cells #[.string x.Input, .slice A1 x.Names.length c1, .slice A2 x.Rows.length c2, .slice A3 x.Marks.length c3] 32)) (by simp) (fun _ => False)
    rw [World.size_alloc] at h
    exact h
  have HS1 : Hid (w.heap.size + 2 = ((w.alloc (.cells #[.string x.Input, .slice A1 x.Names.length c1, .slice A2 x.Rows.length c2, .slice A3 x.Marks.length c3] 32)).alloc (.cells #[] 9)).heap.size) := by unfold Hid; simp
  have b0 := HI0.out.cell 0 rfl
  have b1 := HI0.out.cell 1 rfl
  have b2 := HI0.out.cell 2 rfl
  have b3 := HI0.out.cell 3 rfl
  go_enter Tryz.func22, Tryz.ntmps22
  go_wp2_with fail
  refine (HWI.out _ HA0.out).mono ?_
  rintro e w2 ⟨u, rfl, hrow, hb2⟩
  rw [← HS1.out] at hrow hb2
  obtain ⟨Au, cu, rfl⟩ := hrow.form
  have HBX := Lib.hid (HI0.out.keptB hb2 (by omega))
  have HO2 : Hid (OwnRd (Rep.str mkT) 9 true (w.heap.size + 1) w2 (.slice (some ⟨w.heap.size + 1, 0, none⟩) 0 0) (optTo x WW 0) (fun _ => False)) := by
    unfold Hid; rw [H0.out]
    exact OwnRd.kept HO0.out (by rw [← HS1.out]; exact hb2)
  have HB2 := Lib.hid (HA0.out.trans (hb2.mono (by omega)))
  have hs2 := hb2.size
  rw [← HS1.out] at hs2
  have HAP : Hid (Apart (.slice (some ⟨w.heap.size + 1, 0, none⟩) 0 0) (w.heap.size + 2) w2.heap.size) := fun k hk => by simp [Value.ownBlock] at hk; try omega
  have HRW := Lib.hid (hrow.tight.weak)
  clear hrow hb2 b0 b1 b2 b3 HI0 HA0 HO0 HWI HS1
  have hwl := HWL.out
  generalize hLW : WW.length = LW at *
  go_wp2
  go_loopw [5, 7] (fun o i wr => ∃ (k : Nat), k ≤ LW ∧ i = .int .i64 k ∧ OwnRd (Rep.str mkT) 9 true (w.heap.size + 1) wr o (optTo x WW k) (fun _ => False) ∧ Apart o (w.heap.size + 2) w2.heap.size ∧ KeepB (w.heap.size + 2) w2.heap.size w2 wr ∧ InC wr w.heap.size #[.string x.Input, .slice A1 x.Names.length c1, .slice A2 x.Rows.length c2, .slice A3 x.Marks.length c3] 32 ∧ Below w.heap.size w wr) (fun _ i _ => LW - (intOf i).toNat)
  case atStart => exact ⟨0, by omega, rfl, HO2.out, HAP.out, KeepB.refl (Nat.le_refl _), HBX.out, HB2.out⟩
  case round =>
    obtain ⟨k, hk, rfl, hown, hap, hkb, hbx, hbe⟩ := hrel
    obtain ⟨w4, rfl⟩ : ∃ w4 : World, w4 = wr := ⟨_, rfl⟩
    have HB := Lib.hid hbe
    have HBX4 := Lib.hid hbx
    have HOW := Lib.hid hown
    have HAP4 := Lib.hid hap
    have HKB := Lib.hid hkb
    have hln := HLN.out k
    have HR4 : Hid (RowRd Rep.int false w4 (.slice Au LW cu) WW (fun a => w.heap.size + 2 ≤ a.block ∧ a.block < w2.heap.size)) := HRW.out.frame fun a ha => by
      have h := hkb.same a.block ha.1 ha.2
      exact ⟨World.cell?_of_block h, World.frozen?_of_block h⟩
    obtain ⟨Ao, co, rfl⟩ := OwnRd.formS12 hown
    clear hbe hbx hown hap hkb
    by_cases hkl : k < LW
    · obtain ⟨z, b, c, hz, rfl, hbr, hc, hox, hcl⟩ := HX.out k hkl
      have HSK := Lib.hid (HST.out k _ hz)
      rw [hox] at HSK
      have hkr : (k : Int) < (LW : Int) := by omega
      have hbr2 : (b : Int) < (x.Rows.length : Int) := by omega
      obtain ⟨gu, ou, xsu, Gu, rfl, -, hru', -, hcu⟩ := HR4.out.get hz
      obtain ⟨rfl, -⟩ := id hru'
      have du := hcu 0 _ rfl
      simp only [show Rep.int.size = 1 from rfl, Nat.mul_one, Nat.add_zero] at du
      obtain ⟨g3, o3, xs3, G3, rfl, -, hr3', -, hc3⟩ := (HV.out.rows.kept HB.out).get hc
      obtain ⟨v3, rfl, q3⟩ := rCandidate_rd hr3'
      rw [show rCandidate.size = 1 from rfl] at hc3
      have d3 := hc3 0 _ rfl
      simp only [Nat.add_zero, Nat.mul_one] at d3
      have b2 := HBX4.out.cell 2 rfl
      have HQ3 := Lib.hid q3
      have hsz := out_size c.Links
      clear hru' hcu hr3' hc3 q3 hz hc hox
      have hru := fun d os => cell_regrown du d os
      have hr3 := fun d os => cell_regrown d3 d os
      have hrb := fun d os => cell_regrown b2 d os
      have HH : Hid (∀ d os, Calls Tryz.prog 61 #[.agg #[v3]] (grow (redrawn w4 d) os) fun e w'' => e = .returned (.string ⟨(outS c.Links).toArray⟩) ∧ ∃ p : Regrown, w'' = grow (redrawn w4 p.d) p.os) := fun d os =>
        Calls.regrown_of (HOS.out c v3 G3 _ hcl (HQ3.out.kept (below_regrown w4 d os)))
      have HH2 := HH.out
      clear HH
      generalize hLO : (optTo x WW k).length = LO at *
      go_wp2
      refine wp_region_quiet_below (by kernel_rfl) (by kernel_rfl) ?_
      repeat (first | go_big_quiet_skip | quiet_step (with_reducible exact HH2 _ _))
      refine wpQuiet_nil ?_
      intro _ hw'
      obtain ⟨⟨dq, osq⟩, hw''⟩ := hw'
      subst hw''
      have hb45 := below_regrown w4 dq osq
      generalize (grow (redrawn w4 dq) osq) = w5 at *
      have HB5 := Lib.hid (below_step HB.out hb45)
      have HBX5 := Lib.hid (HBX4.out.kept hb45)
      have HO5 := Lib.hid (OwnRd.kept HOW.out hb45)
      have HKB5 := Lib.hid (HKB.out.below hb45)
      clear hb45 HH2 hru hr3 hrb du d3 b2
      generalize hS : (⟨(outS c.Links).toArray⟩ : ByteArray) = S at *
      clear hS
      have HRO := Lib.hid ((OwnRd.row HO5.out (by omega)).weak)
      have HHK := Lib.hid (HHAS.out _ _ _ S w5 (by omega) HRO.out)
      generalize hbb : hasB (optTo x WW k) S = bb at *
      go_wp2_with fail
      refine HHK.out.mono ?_
      rintro e w6 ⟨rfl, rfl⟩
      cases bb with
      | true =>
        have HNX : Hid (optTo x WW (k + 1) = optTo x WW k) := by unfold Hid; rw [HSK.out]; exact addNew_yes hbb
        have HO6 : Hid (OwnRd (Rep.str mkT) 9 true (w.heap.size + 1) w5 (.slice Ao LO co) (optTo x WW (k + 1)) (fun _ => False)) := by unfold Hid; rw [HNX.out]; exact HO5.out
        clear hbb
        go_wp2
        go_roundw
        case rel => exact ⟨k + 1, by omega, by go_num, HO6.out, HAP4.out, HKB5.out, HBX5.out, HB5.out⟩
        case measure => simp [intOf]; omega
      | false =>
        have HNX : Hid (optTo x WW (k + 1) = optTo x WW k ++ [S]) := by unfold Hid; rw [HSK.out]; exact addNew_no hbb
        clear hbb
        go_wp2_with (at_builtin; refine Hid.out ?_)
        unfold Hid
        refine wpList_append_el (Rep.str mkT) w5 rfl (.tmp 32) (.tmp 34) 22 9 i9 (.string ⟨#[]⟩) 16 rfl Tryz.underlying22 hi9 h9z h9s h9b rfl (by decide) true (w.heap.size + 1) _ (optTo x WW k) (fun _ => False) HO5.out rfl [.string S] S (fun _ => False) ⟨rfl, by omega⟩ (fun a h => h.elim) (fun _ a h => h.elim) rfl (fun u hu => by simp at hu; subst hu; rfl) (by omega) (by omega) (by have := HB5.out.size; have := HBX5.out.lt; omega) ?_
        intro v7 w7 ho7 hb7 hk7 hm7
        have HO7 : Hid (OwnRd (Rep.str mkT) 9 true (w.heap.size + 1) w7 v7 (optTo x WW (k + 1)) (fun _ => False)) := by unfold Hid; rw [HNX.out]; exact ho7.mono fun a h => h.elim id id
        have HAP7 := Lib.hid (HAP4.out.grow HKB5.out.size hm7)
        have HKB7 := Lib.hid (HKB5.out.grow HAP4.out (Nat.le_trans (by omega) hb7.size) (fun q h1 h2 => (hk7 q h1 h2).1))
        have HBX7 := Lib.hid (HBX5.out.keptB hb7 (by omega))
        have HB7 := Lib.hid (HB5.out.trans (hb7.mono (by omega)))
        clear ho7 hb7 hk7 hm7
        go_wp2
        go_roundw
        case rel => exact ⟨k + 1, by omega, by go_num, HO7.out, HAP7.out, HKB7.out, HBX7.out, HB7.out⟩
        case measure => simp [intOf]; omega
    · obtain rfl : k = LW := by omega
      have hrr := (OwnRd.row HOW.out (by omega)).mono (G := fun a => w.heap.size ≤ a.block) (fun a ha => ha.elim (fun h => by omega) (fun h => h.elim))
      have HRR : Hid (RowRd (Rep.str mkT) true w4 (.slice Ao (optTo x WW k).length co) R (fun a => w.heap.size ≤ a.block)) := by unfold Hid; rw [← HEND.out]; exact hrr
      clear hrr
      go_wp2
      go_ret
      exact ⟨_, rfl, HRR.out, HB.out⟩
end Go.Proofs.YtkaihnlknncfdaaGreatDoor

/- Rankings: the program's isConstraintCount, slices.Contains over numbers, IsRanking: what they answer. -/
namespace Go.Proofs.YtkaihnlknncfdaaGreatDoor
set_option maxRecDepth 100000
open Go.RowKit Go.Sort
set_option linter.unusedVariables false
set_option linter.unusedSimpArgs false

set_option maxHeartbeats 1000000 in
theorem idxN12_any (l : List Int) (v : Value) (F : Addr → Prop) (x : Int) (w : World) (hv : RowRd Rep.int false w v l F) :
    Calls Tryz.prog 138 #[v, .int .i64 x] w fun e w' => e = .returned (.int .i64 (idxN12 l x)) ∧ w = w' := by
  obtain ⟨A, cap, rfl⟩ := hv.form
  have hmx := hv.max
  have HV := Lib.hid hv
  clear hv
  have HX : Hid (∀ k, k < l.length → ∃ y, l[k]? = some y) := fun k hk => ⟨_, List.getElem?_eq_getElem hk⟩
  have HNO : Hid ((∀ (j : Nat) (y : Int), j < l.length → l[j]? = some y → ¬ y = x) → idxN12 l x = -1) := fun h => idxN12_no fun j y hj => h j y (List.getElem?_eq_some_iff.1 hj).1 hj
  have HYES : Hid (∀ (k : Nat), l[k]? = some x → (∀ (j : Nat) (y : Int), j < k → l[j]? = some y → ¬ y = x) → idxN12 l x = k) := fun k h1 h2 => idxN12_yes h1 h2
  generalize idxN12 l x = r at *
  generalize hll : l.length = L at *
  clear hll
  go_enter Tryz.func138, Tryz.ntmps138
  go_wp2
  go_loop [8] (fun i => ∃ (k : Nat), k ≤ L ∧ i = .int .i64 k ∧ Hid (∀ (j : Nat) (y : Int), j < k → l[j]? = some y → ¬ y = x)) (fun i => L - (intOf i).toNat)
  case atStart => exact ⟨0, by omega, rfl, fun j y hj => by omega⟩
  case round =>
    obtain ⟨k, hk, rfl, hall⟩ := hrel
    by_cases hkl : k < L
    · obtain ⟨y, hy⟩ := HX.out k hkl
      obtain ⟨g, off, xs, Fk, rfl, _, hra, _, hca⟩ := HV.out.get hy
      obtain ⟨rfl, _⟩ := id hra
      rw [show Rep.int.size = 1 from rfl] at hca
      have c0 := hca 0 _ rfl
      simp only [Nat.add_zero, Nat.mul_one] at c0
      clear hca hra
      have HY := Lib.hid hy
      clear hy
      by_cases he : x = y
      · subst he
        have HF := Lib.hid (HYES.out k HY.out hall.out)
        clear HYES HNO hall
        go_wp2
        go_ret
        exact ⟨by rw [HF.out]; rfl, rfl⟩
      · have e1 : (x == y) = false := by simp [he]
        have HG : Hid (∀ (j : Nat) (z : Int), j < k + 1 → l[j]? = some z → ¬ z = x) := fun j z hj hz => by
          by_cases e : j = k
          · subst e; rw [HY.out] at hz; cases hz; exact fun h => he h.symm
          · exact hall.out j z (by omega) hz
        clear HYES HNO hall
        go_wp2
        go_round
        case rel => exact ⟨k + 1, by omega, by go_num, HG.out⟩
        case measure => simp [intOf]; omega
    · obtain rfl : k = L := by omega
      have HF := Lib.hid (HNO.out hall.out)
      clear hall
      go_wp2
      go_ret
      exact ⟨by rw [HF.out]; rfl, rfl⟩
theorem memI_any (l : List Int) (v : Value) (F : Addr → Prop) (x : Int) (w : World) (hv : RowRd Rep.int false w v l F) :
    Calls Tryz.prog 104 #[v, .int .i64 x] w fun e w' => e = .returned (.bool (decide (x ∈ l))) ∧ w = w' := by
  have HC := Lib.hid (idxN12_any l v F x w hv)
  clear hv
  rw [mem_idx]
  generalize idxN12 l x = i at *
  go_enter Tryz.func104, Tryz.ntmps104
  go_wp2_with fail
  refine HC.out.mono ?_
  rintro e w1 ⟨rfl, rfl⟩
  go_wp2
  go_ret
  exact ⟨rfl, rfl⟩
set_option maxHeartbeats 8000000 in
theorem implRk_any (l : List Int) (n : Int) (v : Value) (F : Addr → Prop) (w : World) (hv : RowRd Rep.int false w v l F) :
    Calls Tryz.prog 54 #[v, .int .i64 n] w fun e w' => e = .returned (.bool (rkB l n)) ∧ w = w' := by
  obtain ⟨A, cap, rfl⟩ := hv.form
  have hmx := hv.max
  have HV := Lib.hid hv
  clear hv
  have HSH : Hid (¬ (1 ≤ n ∧ n ≤ 5 ∧ (l.length : Int) = n) → rkB l n = false) := rk_short
  have HNOT : Hid (∀ k : Nat, (k : Int) < n → ¬ (k : Int) ∈ l → rkB l n = false) := fun k h1 h2 => rk_not h1 h2
  have HYES : Hid (1 ≤ n → n ≤ 5 → (l.length : Int) = n → (∀ k : Nat, (k : Int) < n → (k : Int) ∈ l) → rkB l n = true) := rk_yes
  have HM := Lib.hid (fun k : Nat => memI_any l _ F (k : Int) w HV.out)
  have HI := Lib.hid (cnt12_any n w)
  generalize rkB l n = r at *
  generalize hll : l.length = L at *
  by_cases hc : 1 ≤ n ∧ n ≤ 5
  case neg =>
    have HF := Lib.hid (HSH.out fun h => hc ⟨h.1, h.2.1⟩)
    have e0 : (decide (1 ≤ n) && decide (n ≤ 5)) = false := by
      cases h : (decide (1 ≤ n) && decide (n ≤ 5)) with
      | false => rfl
      | true => simp at h; exact (hc h).elim
    rw [e0] at HI
    clear hc HSH HNOT HYES e0
    go_enter Tryz.func54, Tryz.ntmps54
    go_wp2_with fail
    refine HI.out.mono ?_
    rintro e w1 ⟨rfl, rfl⟩
    go_wp2
    go_ret
    exact ⟨ret_bool HF.out.symm, rfl⟩
  have e0 : (decide (1 ≤ n) && decide (n ≤ 5)) = true := by simp [hc.1, hc.2]
  rw [e0] at HI
  clear e0
  obtain ⟨hc1, hc2⟩ := hc
  by_cases hL : (L : Int) = n
  case neg =>
    have HF := Lib.hid (HSH.out fun h => hL h.2.2)
    have e1 : ((L : Int) != n) = true := by simp [hL]
    clear HSH HNOT HYES hL
    go_enter Tryz.func54, Tryz.ntmps54
    go_wp2_with fail
    refine HI.out.mono ?_
    rintro e w1 ⟨rfl, rfl⟩
    go_wp2
    go_ret
    exact ⟨ret_bool HF.out.symm, rfl⟩
  subst hL
  have HY : Hid ((∀ k : Nat, k < L → (k : Int) ∈ l) → r = true) := fun h => HYES.out hc1 hc2 rfl fun k hk => h k (by omega)
  have HN : Hid (∀ k : Nat, k < L → ¬ (k : Int) ∈ l → r = false) := fun k hk => HNOT.out k (by omega)
  clear HSH HNOT HYES
  go_enter Tryz.func54, Tryz.ntmps54
  go_wp2_with fail
  refine HI.out.mono ?_
  rintro e w1 ⟨rfl, rfl⟩
  go_wp2
  go_loop [16] (fun i => ∃ (k : Nat), k ≤ L ∧ i = .int .i64 k ∧ Hid (∀ j : Nat, j < k → (j : Int) ∈ l)) (fun i => L - (intOf i).toNat)
  case atStart => exact ⟨0, by omega, rfl, fun j hj => by omega⟩
  case round =>
    obtain ⟨k, hk, rfl, hall⟩ := hrel
    by_cases hkl : k < L
    · have HMK := Lib.hid (HM.out k)
      by_cases hm : (k : Int) ∈ l
      · rw [decide_eq_true hm] at HMK
        have HG : Hid (∀ j : Nat, j < k + 1 → (j : Int) ∈ l) := fun j hj => by
          by_cases e : j = k
          · subst e; exact hm
          · exact hall.out j (by omega)
        clear HY HN hm hall
        go_wp2_with fail
        refine HMK.out.mono ?_
        rintro e w1 ⟨rfl, rfl⟩
        go_wp2
        go_round
        case rel => exact ⟨k + 1, by omega, by go_num, HG.out⟩
        case measure => simp [intOf]; omega
      · rw [decide_eq_false hm] at HMK
        have HF := Lib.hid (HN.out k hkl hm)
        clear HY HN hm hall
        go_wp2_with fail
        refine HMK.out.mono ?_
        rintro e w1 ⟨rfl, rfl⟩
        go_wp2
        go_ret
        exact ⟨ret_bool HF.out.symm, rfl⟩
    · obtain rfl : k = L := by omega
      have HF := Lib.hid (HY.out hall.out)
      clear HY HN hall
      go_wp2
      go_ret
      exact ⟨ret_bool HF.out.symm, rfl⟩
end Go.Proofs.YtkaihnlknncfdaaGreatDoor
