/- impl.ParseInt: what the program answers. It reads the table of powers of ten (through FormatInt). -/
import Derived.Test.YtfidmjpgceljkaaDoorP1
import Derived.Lib.OthersKept
import Derived.Laws.RangeAny
namespace Go.Proofs.YtfidmjpgceljkaaDoor
open Go.RowKit M Go.Lib

theorem trim_any (s D : ByteArray) (hD : Hid (D = ⟨(trimPrefix s.data.toList [45]).toArray⟩)) (w : World) :
    Calls Tryd.prog 29 #[.string s, .string ⟨#[45]⟩] w fun e w' => e = .returned (.string D) ∧ w = w' := by
  refine (Tryd.strings_TrimPrefix s ⟨#[45]⟩ w).mono fun e w' h => ⟨?_, h.2.symm⟩
  rw [h.1, hD.out]
theorem trim_len (l : List UInt8) : (trimPrefix l [45]).length ≤ l.length := by
  unfold trimPrefix
  split
  · simp
  · exact Nat.le_refl _
theorem mem_at (D : ByteArray) (i : Nat) (h : i < D.size) : D[i] ∈ D.data.toList := by
  have hl : i < D.data.toList.length := by simpa using h
  exact List.mem_of_getElem (h := hl) rfl

theorem pt_no {s : ByteArray} {x : Int} (h : (!itoa x == s.toList) = true) (hx : x = tsgn s.data.toList) : IsPi s.data.toList 0 false := by
  refine pi_no_text fun he => ?_
  rw [← hx] at he
  rw [Lib.toList_data, he] at h
  simp at h
theorem pt_yes {s : ByteArray} {x : Int} (h : (!itoa x == s.toList) = false) (hx : x = tsgn s.data.toList) (h9 : (trimPrefix s.data.toList [45]).length ≤ 9) : IsPi s.data.toList x true := by
  subst hx
  exact pi_yes_text h9 (by rw [Lib.toList_data] at h; simpa using h)

set_option maxRecDepth 20000 in
set_option maxHeartbeats 2000000 in
theorem implParse_any (s : ByteArray) (w : World) (hT : Tab w) :
    Calls Tryd.prog 18 #[.string s] w (PiPost s w) := by
  have HT := Lib.hid hT
  clear hT
  obtain ⟨D, hD⟩ : ∃ D : ByteArray, Hid (D = ⟨(trimPrefix s.data.toList [45]).toArray⟩) := ⟨_, rfl⟩
  have hDl : D.data.toList = trimPrefix s.data.toList [45] := by rw [hD.out]
  have hDs : D.size ≤ s.size := by
    have h1 := trim_len s.data.toList
    rw [← hDl] at h1
    simpa using h1
  have HDL := Lib.hid hDl
  clear hDl
  by_cases h9 : 9 < D.size
  · have HN : Hid (IsPi s.data.toList 0 false) := pi_no_long (by rw [← HDL.out]; simpa using h9)
    go_enter Tryd.func18, Tryd.ntmps18
    go_wp2_with (go_at_call 29; refine (trim_any s D hD _).mono ?_; rintro e w1 ⟨rfl, rfl⟩)
    go_ret2
    exact ⟨0, false, HN.out, rfl, Below.refl _ _⟩
  · go_enter Tryd.func18, Tryd.ntmps18
    go_wp2_with (go_at_call 29; refine (trim_any s D hD _).mono ?_; rintro e w1 ⟨rfl, rfl⟩)
    have hiter : (w.iter D 0).heap[w.heap.size]? = some (.stringIter D 0) := World.iter_heap w D 0
    have hbi : Below w.heap.size w (w.iter D 0) := (Below.refl _ _).alloc (Nat.le_refl _) _
    go_loopw [5] (fun nv wr => ∃ (x : Int) (pos : Nat), nv = .int .i64 x ∧ pos ≤ D.size ∧ 0 ≤ x ∧ x ≤ 99999999999 ∧ Hid (x = sF (D.data.toList.take pos)) ∧ Hid (∀ b ∈ D.data.toList.take pos, isD b = true) ∧ wr.heap[w.heap.size]? = some (.stringIter D pos) ∧ Below w.heap.size w wr) (fun _ wr => D.size - wr.iterPos w.heap.size)
    case atStart => exact ⟨0, 0, rfl, by omega, by omega, by omega, rfl, by simp [Hid], hiter, hbi⟩
    case round =>
      obtain ⟨x, pos, rfl, hpos, hx0, hx1, hx, hall, hit, hb⟩ := hrel
      clear hiter hbi
      by_cases hlt : pos < D.size
      · have hbad : Hid (isD D[pos] = false → IsPi s.data.toList 0 false) := fun hd => pi_no_byte (b := D[pos]) (by rw [← HDL.out]; exact mem_at D pos hlt) hd
        by_cases hasc : D[pos].toNat < 128
        · have hnx := fun ty => Lib.run_next_ascii_at (P := Tryd.prog) wr w.heap.size D pos ty hit hlt hasc
          have hit' := Lib.iterAt_heap wr w.heap.size D pos (pos + 1) hit
          have hbi := Lib.below_iterAt hb (Nat.le_refl _) D (pos + 1)
          have hb0 : (0 : Int) ≤ (D[pos].toNat : Int) := by omega
          have hb1 : (D[pos].toNat : Int) < 128 := by omega
          by_cases h48 : 48 ≤ (D[pos].toNat : Int)
          · by_cases h57 : (D[pos].toNat : Int) ≤ 57
            · have hd := isD_of D[pos] h48 h57
              have hti : (D.data.toList.take pos).length = pos := by simp; omega
              have hkl := sK_le (D.data.toList.take pos)
              have hp := sF_bd (D.data.toList.take pos)
              have hp2 := pow10_le (sK (D.data.toList.take pos)) 10 (by omega)
              have hx2 : x ≤ 9999999999 := by
                have := hx.out
                have h3 : (10 : Int) ^ 10 = 10000000000 := by decide
                omega
              have HX : Hid (sF (D.data.toList.take (pos + 1)) = stepN x D[pos]) := by unfold Hid; rw [take_snoc D pos hlt, sF_snoc, hx.out]
              have HA : Hid (∀ b ∈ D.data.toList.take (pos + 1), isD b = true) := by
                unfold Hid
                rw [take_snoc D pos hlt]
                intro b hb
                rcases List.mem_append.1 hb with h | h
                · exact hall.out b h
                · rw [List.mem_singleton.1 h]; exact hd
              have HD := Lib.hid hd
              clear hti hkl hp hp2 hd
              go_wp2
              go_roundw
              case rel =>
                refine ⟨x * 10 + ((D[pos].toNat : Int) - 48), pos + 1, by go_num, by omega, by omega, by omega, ?_, HA, hit', hbi⟩
                unfold Hid; rw [HX.out, stepN_of _ _ HD.out]
              case measure => rw [iterPos_of hit', iterPos_of hit]; omega
            · have HN : Hid (IsPi s.data.toList 0 false) := hbad.out (isD_not _ (by omega))
              go_wp2
              go_ret2
              exact ⟨0, false, HN.out, rfl, hbi⟩
          · have HN : Hid (IsPi s.data.toList 0 false) := hbad.out (isD_not _ (by omega))
            go_wp2
            go_ret2
            exact ⟨0, false, HN.out, rfl, hbi⟩
        · have hnx := fun ty => Lib.run_next_any_at (P := Tryd.prog) wr w.heap.size D pos ty hit hlt
          have hhi := decode_high D pos hlt (by omega)
          have hx3 : (128 : Int) ≤ ((Utf8.decode D pos).1 : Int) := by omega
          have hx4 : ((Utf8.decode D pos).1 : Int) ≤ 2147483647 := by have := decode_le D pos; omega
          have hbi := Lib.below_iterAt hb (Nat.le_refl _) D (pos + (Utf8.decode D pos).2)
          have HN : Hid (IsPi s.data.toList 0 false) := hbad.out (isD_not _ (by omega))
          go_wp2
          go_ret2
          exact ⟨0, false, HN.out, rfl, hbi⟩
      · have hnx := fun ty => Lib.run_next_end_at (P := Tryd.prog) wr w.heap.size D pos ty hit hlt
        have HTr := Lib.hid (tab_below HT.out hb)
        have HX : Hid (x = sF (trimPrefix s.data.toList [45])) := by
          have := hx.out
          rw [List.take_of_length_le (by simp; omega), HDL.out] at this
          exact this
        have H9 : Hid ((trimPrefix s.data.toList [45]).length ≤ 9) := by
          unfold Hid
          rw [← HDL.out]
          simp; omega
        have HL : Hid ((trimPrefix s.data.toList [45]).length = D.size) := by rw [← HDL.out]; simp [Hid]
        by_cases hneg : D.size < s.size
        · have HS : Hid (-x = tsgn s.data.toList) := by
            unfold Hid tsgn
            rw [HL.out, if_pos (by simpa using hneg), HX.out]
          go_wp2_with (go_at_call 17; refine (implFmt_any _ _ (by omega) (by omega) HTr.out).mono ?_; rintro e w1 ⟨rfl, hb1⟩)
          · have ht : (!itoa (-x) == s.toList) = true := by assumption
            go_ret2
            exact ⟨0, false, pt_no ht HS.out, rfl, hb.trans (hb1.mono hb.size)⟩
          · have ht : (!itoa (-x) == s.toList) = false := by assumption
            go_ret2
            exact ⟨-x, true, pt_yes ht HS.out H9.out, rfl, hb.trans (hb1.mono hb.size)⟩
        · have HS : Hid (x = tsgn s.data.toList) := by
            unfold Hid tsgn
            rw [HL.out, if_neg (by simpa using hneg), HX.out]
          go_wp2_with (go_at_call 17; refine (implFmt_any _ _ (by omega) (by omega) HTr.out).mono ?_; rintro e w1 ⟨rfl, hb1⟩)
          · have ht : (!itoa (x) == s.toList) = true := by assumption
            go_ret2
            exact ⟨0, false, pt_no ht HS.out, rfl, hb.trans (hb1.mono hb.size)⟩
          · have ht : (!itoa (x) == s.toList) = false := by assumption
            go_ret2
            exact ⟨x, true, pt_yes ht HS.out H9.out, rfl, hb.trans (hb1.mono hb.size)⟩
end Go.Proofs.YtfidmjpgceljkaaDoor
