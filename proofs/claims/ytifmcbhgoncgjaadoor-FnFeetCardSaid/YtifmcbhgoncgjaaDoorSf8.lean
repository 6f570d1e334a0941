/- The model's FormatFooting: what it answers. -/
import Derived.Test.YtifmcbhgoncgjaaDoorSf2
import Derived.Test.YtifmcbhgoncgjaaDoorF1c
import Derived.Laws.IdiomStrings
import Derived.Lib.Strings
import Derived.BigQuiet
namespace Go.Proofs.YtifmcbhgoncgjaaDoor
open Go.RowKit M Go.Lib
set_option linter.unusedVariables false
set_option linter.unusedSimpArgs false

def bsF (l : List UInt8) : ByteArray := ⟨l.toArray⟩
theorem bsF_size (l : List UInt8) : (bsF l).size = l.length := by simp [bsF, ByteArray.size]
theorem bsF_add (a b : List UInt8) : bsF a ++ bsF b = bsF (a ++ b) := by
  apply ByteArray.ext
  simp [bsF]
def opT (l : List DFoot) (i : Nat) : Nat → List UInt8
  | 0 => []
  | k + 1 => opT l i k ++ (match l[k]? with | some x => if x.From = (i : Int) then [40] else [] | none => [])
def clT (l : List DFoot) (i : Nat) : Nat → List UInt8
  | 0 => []
  | k + 1 => clT l i k ++ (match l[k]? with | some x => if x.From + x.Size = (i : Int) + 1 then [41] else [] | none => [])
theorem opT_len (l : List DFoot) (i : Nat) : ∀ k, (opT l i k).length ≤ k
  | 0 => by simp [opT]
  | k + 1 => by
    have := opT_len l i k
    rw [opT, List.length_append]
    split
    · split <;> simp <;> omega
    · simp; omega
theorem clT_len (l : List DFoot) (i : Nat) : ∀ k, (clT l i k).length ≤ k
  | 0 => by simp [clT]
  | k + 1 => by
    have := clT_len l i k
    rw [clT, List.length_append]
    split
    · split <;> simp <;> omega
    · simp; omega
def ftTo (f : DFooting) : Nat → List UInt8
  | 0 => []
  | i + 1 => ftTo f i ++ (opT f.Feet i f.Feet.length ++ (itoa ((strL f).getD i 0) ++ clT f.Feet i f.Feet.length))
def ftL (f : DFooting) : List UInt8 := if isFt f = true then ftTo f f.Syllables.toNat else []
theorem opT_yes {l : List DFoot} {i k : Nat} {x : DFoot} (h : l[k]? = some x) (hx : x.From = (i : Int)) : opT l i (k + 1) = opT l i k ++ [40] := by rw [opT, h]; simp only; rw [if_pos hx]
theorem opT_no {l : List DFoot} {i k : Nat} {x : DFoot} (h : l[k]? = some x) (hx : ¬ x.From = (i : Int)) : opT l i (k + 1) = opT l i k := by rw [opT, h]; simp only; rw [if_neg hx, List.append_nil]
theorem clT_yes {l : List DFoot} {i k : Nat} {x : DFoot} (h : l[k]? = some x) (hx : x.From + x.Size = (i : Int) + 1) : clT l i (k + 1) = clT l i k ++ [41] := by rw [clT, h]; simp only; rw [if_pos hx]
theorem clT_no {l : List DFoot} {i k : Nat} {x : DFoot} (h : l[k]? = some x) (hx : ¬ x.From + x.Size = (i : Int) + 1) : clT l i (k + 1) = clT l i k := by rw [clT, h]; simp only; rw [if_neg hx, List.append_nil]
/-- Stresses are 0, 1 or 2. -/
theorem strTo_dig (f : DFooting) : ∀ k, ∀ z ∈ strTo f k, z = 0 ∨ z = 1 ∨ z = 2
  | 0 => fun z hz => by simp [strTo] at hz; omega
  | k + 1 => fun z hz => by
    rw [strTo] at hz
    split at hz
    · rcases List.mem_or_eq_of_mem_set hz with h | h
      · exact strTo_dig f k z h
      · subst h; split <;> simp
    · exact strTo_dig f k z hz
theorem fmtD_any (z : Int) (w : World) (h : z = 0 ∨ z = 1 ∨ z = 2) : Calls Tryd.prog 40 #[.int .i64 z] w fun e w' => e = .returned (.string (bsF (itoa z))) ∧ Below w.heap.size w w' := by
  rcases h with rfl | rfl | rfl
  · exact fmt_zero w
  · exact fmt_pos 1 w (by omega) (by omega)
  · exact fmt_pos 2 w (by omega) (by omega)
theorem itoa_dig {z : Int} (h : z = 0 ∨ z = 1 ∨ z = 2) : (itoa z).length ≤ 20 := by
  have e : ∀ m : Nat, m < 10 → (itoa (m : Int)).length ≤ 20 := fun m hm => by
    rw [itoa_nonneg, decDigits_one hm]; simp
  rcases h with rfl | rfl | rfl
  · exact e 0 (by omega)
  · exact e 1 (by omega)
  · exact e 2 (by omega)
theorem ftTo_len {f : DFooting} (h : ∀ i, i < f.Syllables.toNat → (itoa ((strL f).getD i 0)).length ≤ 20) : ∀ k, k ≤ f.Syllables.toNat → (ftTo f k).length ≤ k * (2 * f.Feet.length + 20)
  | 0, _ => by simp [ftTo]
  | k + 1, hk => by
    have ih := ftTo_len h k (by omega)
    have h1 := opT_len f.Feet k f.Feet.length
    have h2 := clT_len f.Feet k f.Feet.length
    have h3 := h k (by omega)
    rw [ftTo, List.length_append, List.length_append, List.length_append, Nat.succ_mul]
    omega
set_option maxHeartbeats 4000000 in
theorem specFF_any (f : DFooting) (v1 : Value) (F : Addr → Prop) (w : World) (hm : f.Feet.length ≤ 1048576) (hs : I64 f.Syllables) (hmn : I64 f.Main) (hv : RowRd rFoot false w v1 f.Feet F) :
    Calls Tryd.prog 21 #[.agg #[.int .i64 f.Syllables, v1, .int .i64 f.Main]] w fun e w' => e = .returned (.string (bsF (ftL f))) ∧ Below w.heap.size w w' := by
  have HIS : Hid (∀ W, Below w.heap.size w W → Calls Tryd.prog 22 #[.agg #[.int .i64 f.Syllables, v1, .int .i64 f.Main]] W fun e w' => e = .returned (.bool (isFt f)) ∧ Below W.heap.size W w') := fun W hW => specIsF_any f v1 F W hm hs hmn (hv.kept hW)
  have HSTR : Hid (∀ W, Below w.heap.size w W → Calls Tryd.prog 23 #[.agg #[.int .i64 f.Syllables, v1, .int .i64 f.Main]] W (OwnPost Rep.int (strL f) W)) := fun W hW => specStr_any f v1 F W hm hs hmn (hv.kept hW)
  obtain ⟨A, cap, rfl⟩ := hv.form
  have HV := Lib.hid hv
  clear hv
  by_cases hft : isFt f = true
  case neg =>
    have hft : isFt f = false := by simpa using hft
    have HE : Hid (ftL f = []) := by unfold Hid ftL; rw [if_neg (by simp [hft])]
    rw [hft] at HIS
    go_enter Tryd.func21, Tryd.ntmps21
    go_wp2_with fail
    refine (HIS.out _ ((Below.refl _ _).alloc (Nat.le_refl _) _)).mono ?_
    rintro e w1 ⟨rfl, hb1⟩
    have HB1 := Lib.hid (((Below.refl w.heap.size w).alloc (Nat.le_refl _) _).trans (hb1.mono (by simp)))
    clear hb1
    go_wp2
    go_ret
    exact ⟨ret_str (by rw [HE.out]; rfl), HB1.out⟩
  obtain ⟨g1, g2, g3, g4, g5⟩ := isFt_iff.1 hft
  obtain ⟨S, hS⟩ := Int.eq_ofNat_of_zero_le (show 0 ≤ f.Syllables by omega)
  have hSn : f.Syllables.toNat = S := by omega
  have HSL : Hid ((strL f).length = S) := by unfold Hid strL; rw [if_pos hft, strTo_len, hSn]
  have HDG : Hid (∀ (i : Nat) (z : Int), (strL f)[i]? = some z → z = 0 ∨ z = 1 ∨ z = 2) := fun i z h => by
    have e : strL f = strTo f f.Feet.length := if_pos hft
    rw [e] at h
    exact strTo_dig f _ z (List.mem_of_getElem? h)
  have HE : Hid (ftL f = ftTo f S) := by unfold Hid ftL; rw [if_pos hft, hSn]
  have HLN : Hid (∀ k, k ≤ S → (ftTo f k).length ≤ k * (2 * f.Feet.length + 20)) := by
    have := ftTo_len (f := f) (fun i hi => by
      have hil : i < (strL f).length := by rw [HSL.out]; omega
      rw [List.getD_eq_getElem?_getD, List.getElem?_eq_getElem hil]
      exact itoa_dig (HDG.out i _ (List.getElem?_eq_getElem hil)))
    rw [hSn] at this
    exact this
  have HST : Hid (∀ i, ftTo f (i + 1) = ftTo f i ++ (opT f.Feet i f.Feet.length ++ (itoa ((strL f).getD i 0) ++ clT f.Feet i f.Feet.length))) := fun i => rfl
  have HX : Hid (∀ k, k < f.Feet.length → ∃ x, f.Feet[k]? = some x) := fun k hk => ⟨_, List.getElem?_eq_getElem hk⟩
  have HAT : Hid (∀ (k : Nat) (x : DFoot), f.Feet[k]? = some x → 0 ≤ x.From ∧ 1 ≤ x.Size ∧ x.Size ≤ 2 ∧ x.From + x.Size ≤ f.Syllables ∧ 0 ≤ x.Head ∧ x.Head ≤ x.Size - 1) := fun k x h => okFeet_at g3 (by omega) h
  rw [hft] at HIS
  rw [hS] at HIS HSTR HAT g1 g2 ⊢
  clear hft g3 g4 g5 hs hmn hS hSn
  generalize ftL f = L at *
  generalize ftTo f = T at *
  generalize strL f = sl at *
  generalize f.Main = M at *
  generalize f.Feet = l at *
  generalize hl : l.length = n at *
  clear hl
  go_enter Tryd.func21, Tryd.ntmps21
  go_wp2_with fail
  refine (HIS.out _ ((Below.refl _ _).alloc (Nat.le_refl _) _)).mono ?_
  rintro e w1 ⟨rfl, hb1⟩
  have HIN : Hid (InC w1 w.heap.size #[.int .i64 (S : Int), .slice A n cap, .int .i64 M] 31) := (hb1.block _ (by simp)).trans (heap_alloc_new _ _)
  have HB1 := Lib.hid (((Below.refl w.heap.size w).alloc (Nat.le_refl _) _).trans (hb1.mono (by simp)))
  have c0 := HIN.out.cell 0 rfl
  have c1 := HIN.out.cell 1 rfl
  have c2 := HIN.out.cell 2 rfl
  clear hb1
  go_wp2_with fail
  refine (HSTR.out _ HB1.out).mono ?_
  rintro e w2 ⟨us, rfl, hrs, hb2⟩
  obtain ⟨As, cs, rfl⟩ := hrs.form
  have HRS := Lib.hid hrs.weak
  have HIN2 := Lib.hid (HIN.out.kept hb2)
  have HB2 := Lib.hid (HB1.out.trans (hb2.mono HB1.out.size))
  clear hrs hb2 c0 c1 c2
  have hsl := HSL.out
  have HXS : Hid (∀ k, k < S → ∃ z, sl[k]? = some z) := fun k hk => ⟨_, List.getElem?_eq_getElem (by omega)⟩
  rw [hsl] at HRS
  simp only [hsl]
  clear hsl
  have HBB : Hid (∀ k, k ≤ S → (T k).length ≤ 15000000) := fun k hk => by
    have h1 := HLN.out k hk
    have h2 : k * (2 * n + 20) ≤ 6 * (2 * 1048576 + 20) := Nat.mul_le_mul (by omega) (by omega)
    omega
  have H0 : Hid (T 0 = []) := by have := HLN.out 0 (by omega); rw [Nat.zero_mul] at this; exact List.eq_nil_of_length_eq_zero (by omega)
  go_wp2
  go_loopw [3, 5] (fun s i wr => ∃ (k : Nat), k ≤ S ∧ i = .int .i64 k ∧ s = .string (bsF (T k)) ∧ Below w2.heap.size w2 wr) (fun _ i _ => S - (intOf i).toNat)
  case atStart => exact ⟨0, by omega, rfl, by rw [H0.out]; rfl, Below.refl _ _⟩
  case round =>
    obtain ⟨k, hk, rfl, rfl, hbe⟩ := hrel
    have HBE := Lib.hid hbe
    have b0 := (HIN2.out.kept hbe).cell 0 rfl
    have b1 := (HIN2.out.kept hbe).cell 1 rfl
    clear hbe
    by_cases hkS : k < S
    · have HSTK := Lib.hid (HST.out k)
      have hTK := HBB.out k hk
      obtain ⟨z, hz⟩ := HXS.out k hkS
      have hzd := HDG.out k z hz
      have hgd : sl.getD k 0 = z := by rw [List.getD_eq_getElem?_getD, hz]; rfl
      rw [hgd] at HSTK
      have hid := itoa_dig hzd
      have HZC := Lib.hid (HRS.out.get hz)
      generalize T k = J at *
      have hop := opT_len l k n
      have HOP0 : Hid (J ++ opT l k 0 = J) := by simp [Hid, opT]
      go_wp2
      go_loopw [3, 6] (fun s i w3 => ∃ (j : Nat), j ≤ n ∧ i = .int .i64 j ∧ s = .string (bsF (J ++ opT l k j)) ∧ Below w2.heap.size w2 w3) (fun _ i _ => n - (intOf i).toNat)
      case atStart => exact ⟨0, by omega, rfl, by rw [HOP0.out], HBE.out⟩
      case round =>
        obtain ⟨j, hj, rfl, rfl, hbe3⟩ := hrel
        have HBE3 := Lib.hid hbe3
        have d1 := (HIN2.out.kept hbe3).cell 1 rfl
        clear hbe3 b0 b1
        by_cases hjn : j < n
        · obtain ⟨x, hx⟩ := HX.out j hjn
          obtain ⟨g, off, xs, Fk, rfl, _, hrd, _, hc⟩ := (HV.out.kept (HB2.out.trans (HBE3.out.mono HB2.out.size))).get hx
          obtain ⟨rfl, _, _, _⟩ := rFoot_rd hrd
          rw [rFoot_size] at hc
          have e0 := hc 0 _ rfl
          simp only [Nat.add_zero] at e0
          have hol := opT_len l k j
          clear hc hrd
          by_cases hxk : x.From = (k : Int)
          · have HS1 := Lib.hid (opT_yes (i := k) hx hxk)
            rw [hxk] at e0
            have ad : ∀ w : World, (Op.stringOp .add (bsF (J ++ opT l k j)) ⟨#[40]⟩).run Tryd.prog w = .ok (.string (bsF (J ++ opT l k j ++ [40]))) w := fun w => by
              rw [run_string_add_sum _ _ _ (by rw [bsF_size, List.length_append]; show _ + 1 ≤ _; omega), ← bsF_add]; rfl
            clear hx hxk
            generalize hQ : J ++ opT l k j = Q at *
            have HQ := Lib.hid hQ
            clear hQ
            go_wp2
            go_roundw
            case rel => exact ⟨j + 1, by omega, by go_num, by rw [HS1.out, ← List.append_assoc, HQ.out], HBE3.out⟩
            case measure => simp [intOf]; omega
          · have HS1 := Lib.hid (opT_no (i := k) hx hxk)
            clear hx
            generalize x.From = xf at *
            go_wp2
            go_roundw
            case rel => exact ⟨j + 1, by omega, by go_num, by rw [HS1.out], HBE3.out⟩
            case measure => simp [intOf]; omega
        · obtain rfl : j = n := by omega
          have HZC3 : Hid (∃ g off, As = some ⟨g, off, none⟩ ∧ wr.cell? ⟨g, off + k, none⟩ = some (.int .i64 z)) := by
            obtain ⟨g, off, xs, Fk, hA, _, hrd, _, hc⟩ := HZC.out
            obtain ⟨rfl, _⟩ := id hrd
            have := hc 0 _ rfl
            rw [show Rep.int.size = 1 from rfl, Nat.mul_one, Nat.add_zero] at this
            exact ⟨g, off, hA, (HBE3.out.cell (block_lt_of_cell this)).trans this⟩
          obtain ⟨gs, os, rfl, hzc⟩ := HZC3.out
          have HFM : Hid (∀ W, Calls Tryd.prog 40 #[.int .i64 z] W fun e w' => e = .returned (.string (bsF (itoa z))) ∧ Below W.heap.size W w') := fun W => fmtD_any z W hzd
          generalize itoa z = Z at *
          have hJL : (J ++ opT l k j).length ≤ 15000000 + j := by rw [List.length_append]; omega
          have ad : ∀ w : World, (Op.stringOp .add (bsF (J ++ opT l k j)) (bsF Z)).run Tryd.prog w = .ok (.string (bsF (J ++ opT l k j ++ Z))) w := fun w => by
            rw [run_string_add_sum _ _ _ (by rw [bsF_size, bsF_size]; omega), bsF_add]
          clear hzd hz hgd
          go_wp2_with fail
          refine (HFM.out _).mono ?_
          rintro e w4 ⟨rfl, hb4⟩
          have HBE4 := Lib.hid (HBE3.out.trans (hb4.mono HBE3.out.size))
          clear hb4 hzc HZC HZC3
          have hJL2 : (J ++ opT l k j ++ Z).length ≤ 15000000 + j + 20 := by rw [List.length_append]; omega
          generalize hQ : J ++ opT l k j ++ Z = Q at *
          have HQ := Lib.hid hQ
          clear hQ
          have HCL0 : Hid (Q ++ clT l k 0 = Q) := by simp [Hid, clT]
          have HQS : Hid (Q ++ clT l k j = T (k + 1)) := by unfold Hid; rw [HSTK.out, ← HQ.out]; simp
          go_wp2
          go_loopw [3, 7] (fun s i w5 => ∃ (m : Nat), m ≤ j ∧ i = .int .i64 m ∧ s = .string (bsF (Q ++ clT l k m)) ∧ Below w2.heap.size w2 w5) (fun _ i _ => j - (intOf i).toNat)
          case atStart => exact ⟨0, by omega, rfl, by rw [HCL0.out], HBE4.out⟩
          case round =>
            obtain ⟨m, hm', rfl, rfl, hbe5⟩ := hrel
            have HBE5 := Lib.hid hbe5
            have d1 := (HIN2.out.kept hbe5).cell 1 rfl
            clear hbe5
            by_cases hmj : m < j
            · obtain ⟨x, hx⟩ := HX.out m hmj
              obtain ⟨g, off, xs, Fk, rfl, _, hrd, _, hc⟩ := (HV.out.kept (HB2.out.trans (HBE5.out.mono HB2.out.size))).get hx
              obtain ⟨rfl, _, _, _⟩ := rFoot_rd hrd
              rw [rFoot_size] at hc
              have e0 := hc 0 _ rfl
              have e1 := hc 1 _ rfl
              simp only [Nat.add_zero] at e0
              have hcl := clT_len l k m
              obtain ⟨a1, a2, a3, a4, _, _⟩ := HAT.out m x hx
              have hwr : IntKind.i64.wrap (x.From + x.Size) = x.From + x.Size := IntWalk.i64_in _ (by omega)
              have hwk : IntKind.i64.wrap ((k : Int) + 1) = (k : Int) + 1 := IntWalk.i64_in _ (by omega)
              clear hc hrd a1 a2 a3 a4
              by_cases hxk : x.From + x.Size = (k : Int) + 1
              · have HS1 := Lib.hid (clT_yes (i := k) hx hxk)
                have ad2 : ∀ w : World, (Op.stringOp .add (bsF (Q ++ clT l k m)) ⟨#[41]⟩).run Tryd.prog w = .ok (.string (bsF (Q ++ clT l k m ++ [41]))) w := fun w => by
                  rw [run_string_add_sum _ _ _ (by rw [bsF_size, List.length_append]; show _ + 1 ≤ _; omega), ← bsF_add]; rfl
                clear hx ad
                generalize hP : Q ++ clT l k m = P at *
                have HP := Lib.hid hP
                clear hP
                generalize x.From = xf at *
                generalize x.Size = xs' at *
                go_wp2
                go_quiet (fail)
                go_wp2
                go_roundw
                case rel => exact ⟨m + 1, by omega, by go_num, by rw [HS1.out, ← List.append_assoc, HP.out], ⟨HBE5.out.os, HBE5.out.tape, HBE5.out.output, HBE5.out.size, HBE5.out.block⟩⟩
                case measure => simp [intOf]; omega
              · have HS1 := Lib.hid (clT_no (i := k) hx hxk)
                clear hx ad
                generalize x.From = xf at *
                generalize x.Size = xs' at *
                go_wp2
                go_quiet (fail)
                go_wp2
                go_roundw
                case rel => exact ⟨m + 1, by omega, by go_num, by rw [HS1.out], ⟨HBE5.out.os, HBE5.out.tape, HBE5.out.output, HBE5.out.size, HBE5.out.block⟩⟩
                case measure => simp [intOf]; omega
            · obtain rfl : m = j := by omega
              rw [HQS.out]
              go_wp2
              go_roundw
              case rel => exact ⟨k + 1, by omega, by go_num, rfl, HBE5.out⟩
              case measure => simp [intOf]; omega
    · obtain rfl : k = S := by omega
      go_wp2
      go_ret
      exact ⟨ret_str (by rw [HE.out]), HB2.out.trans (HBE.out.mono HB2.out.size)⟩
end Go.Proofs.YtifmcbhgoncgjaaDoor
