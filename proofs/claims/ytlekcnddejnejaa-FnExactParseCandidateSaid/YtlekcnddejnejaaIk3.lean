/- The program's read, FaithfulCandidate: what they answer. -/
import Derived.Test.YtlekcnddejnejaaIk2
import Derived.Test.YtlekcnddejnejaaIf1
namespace Go.Proofs.Ytlekcnddejnejaa
open Go.RowKit M
set_option linter.unusedVariables false
set_option linter.unusedSimpArgs false

theorem byte_at (s : ByteArray) (k : Nat) (h : k < s.size) : s.data.toList[k]? = some s[k] := by
  have h2 : k < s.data.toList.length := by simpa using h
  rw [List.getElem?_eq_getElem h2]
  rfl
theorem rdK_yes {st : UInt8 × List DLink} {b : UInt8} (h : isSnd (b.toNat : Int) = true) : rdK st b = (0, st.2 ++ [edL b st.1]) := by unfold rdK; rw [if_pos h]
theorem rdK_no {st : UInt8 × List DLink} {b : UInt8} (h : isSnd (b.toNat : Int) = false) : rdK st b = (b, st.2) := by unfold rdK; rw [if_neg (by simp [h])]
def ReadPost (s : List UInt8) (g : Nat) (w : World) (e : Ending) (w' : World) : Prop := ∃ ok : Bool, e = .returned (.bool ok) ∧ (ok = true → (rdT s).2.length ≤ 16 ∧ LkL w' g (rdT s).2) ∧ (ok = false → 16 < (rdT s).2.length) ∧ Touch g w w'
set_option maxHeartbeats 4000000 in
theorem implRead_any (s : ByteArray) (g : Nat) (w : World) (hs : s.size ≤ 1048576) (h : LkL w g []) :
    Calls Try.prog 48 #[.pointer (some ⟨g, 0, none⟩), .string s] w (ReadPost s.data.toList g w) := by
  have H := Lib.hid h
  clear h
  go_enter Try.func48, Try.ntmps48
  go_wp2
  go_loopw [5, 10] (fun sg i wr => ∃ (k : Nat), k ≤ s.size ∧ i = .int .i64 k ∧ sg = .int .u8 ((rdT (s.data.toList.take k)).1.toNat : Int) ∧ Hid ((rdT (s.data.toList.take k)).2.length ≤ 16) ∧ LkL wr g (rdT (s.data.toList.take k)).2 ∧ Touch g w wr) (fun _ i _ => s.size - (intOf i).toNat)
  case atStart => exact ⟨0, by omega, rfl, rfl, by unfold Hid; simp [rdT], H.out, Touch.refl _ _⟩
  case round =>
    obtain ⟨k, hk, rfl, rfl, hle, hlk, htc⟩ := hrel
    have HLE := hle
    have HLK := Lib.hid hlk
    have HTC := Lib.hid htc
    clear hle hlk htc
    by_cases hkl : k < s.size
    · have HST := Lib.hid (rdT_step s.data.toList k (byte_at s k hkl))
      have HLN := Lib.hid (rdT_len s.data.toList (k + 1))
      have hb := u8_in s[k]
      go_wp2_with fail
      refine (implIsSound_any (s[k].toNat : Int) _ hb.1 hb.2).mono ?_
      rintro e w2 ⟨rfl, rfl⟩
      cases hsn : isSnd (s[k].toNat : Int)
      · have HR : Hid (rdT (s.data.toList.take (k + 1)) = (s[k], (rdT (s.data.toList.take k)).2)) := by unfold Hid; rw [HST.out, rdK_no hsn]
        go_wp2
        go_roundw
        case rel => exact ⟨k + 1, by omega, by go_num, by rw [HR.out], by rw [HR.out]; exact HLE, by rw [HR.out]; exact HLK.out, HTC.out⟩
        case measure => simp [intOf]; omega
      · have HR : Hid (rdT (s.data.toList.take (k + 1)) = (0, (rdT (s.data.toList.take k)).2 ++ [edL s[k] (rdT (s.data.toList.take k)).1])) := by unfold Hid; rw [HST.out, rdK_yes hsn]
        have HKP := Lib.hid (implKeep_any s[k] (rdT (s.data.toList.take k)).2 g wr HLE.out HLK.out)
        generalize rdT (s.data.toList.take k) = st at *
        obtain ⟨sg, ls⟩ := st
        go_wp2_with fail
        refine HKP.out.mono ?_
        rintro e w2 ⟨hk1, hk2⟩
        by_cases h16 : ls.length = 16
        · obtain ⟨rfl, rfl⟩ := hk1 h16
          have HBIG : Hid (16 < (rdT s.data.toList).2.length) := by
            have h1 := HLN.out
            rw [HR.out] at h1
            unfold Hid
            simp at h1
            omega
          clear hk1 hk2
          go_wp2
          go_ret
          exact ⟨false, rfl, fun h => (by cases h), fun _ => HBIG.out, HTC.out⟩
        · have hlt : ls.length < 16 := by have h1 : ls.length ≤ 16 := HLE.out; omega
          obtain ⟨rfl, hlk2, htc2⟩ := hk2 hlt
          have HED := Lib.hid (implEdit_any s[k] sg ls g w2 hlk2)
          have HT2 := Lib.hid (HTC.out.trans htc2)
          clear hk1 hk2 hlk2 htc2 HKP
          go_wp2_with fail
          refine HED.out.mono ?_
          rintro e w3 ⟨rfl, hlk3, htc3⟩
          have HLK3 := Lib.hid hlk3
          have HT3 := Lib.hid (HT2.out.trans htc3)
          clear hlk3 htc3 HED
          go_wp2
          go_roundw
          case rel => exact ⟨k + 1, by omega, by go_num, by rw [HR.out]; rfl, by rw [HR.out]; unfold Hid; simp; omega, by rw [HR.out]; exact HLK3.out, HT3.out⟩
          case measure => simp [intOf]; omega
    · obtain rfl : k = s.size := by omega
      have htk : s.data.toList.take s.size = s.data.toList := List.take_of_length_le (by simp)
      have HLE2 : Hid ((rdT s.data.toList).2.length ≤ 16) := by have := HLE.out; rwa [htk] at this
      have HLK2 : Hid (LkL wr g (rdT s.data.toList).2) := by have := HLK.out; rwa [htk] at this
      clear HLK HLE htk
      go_wp2
      go_ret
      exact ⟨true, rfl, fun _ => ⟨HLE2.out, HLK2.out⟩, fun h => (by cases h), HTC.out⟩
def CdPost (ls : List DLink) (b : Bool) (w : World) (e : Ending) (w' : World) : Prop := ∃ u, e = .returned (.tuple #[.agg #[u], .bool b]) ∧ RowRd rLink true w' u ls (fun a => w.heap.size ≤ a.block) ∧ Below w.heap.size w w'
theorem faith_step (s : ByteArray) (k : Nat) (h : k < s.size) : faith (s.data.toList.take (k + 1)) = faith (s.data.toList.take k) ++ [⟨s[k], s[k]⟩] := by
  rw [take_next (byte_at s k h)]; unfold faith; simp
theorem faith_len (s : ByteArray) (k : Nat) (h : k ≤ s.size) : (faith (s.data.toList.take k)).length = k := by
  unfold faith; rw [List.length_map, List.length_take]; simp; omega
set_option maxHeartbeats 4000000 in
theorem implFaith_any (s : ByteArray) (w : World) (hs : s.size ≤ 1048576) :
    Calls Try.prog 23 #[.string s] w (CdPost (faC s) (isFm s) w) := by
  have HFM : Hid (∀ W, Calls Try.prog 41 #[.string s] W fun e w' => e = .returned (.bool (isFm s)) ∧ W = w') := fun W => implFmS_any s W (by unfold maxLen; omega)
  have HFC : Hid (faC s = if isFm s then faith s.data.toList else []) := rfl
  have HSZ : Hid (isFm s = true → s.size ≤ 8) := isFm_size
  generalize faC s = r at *
  have HP : Hid (∀ u w', RowRd rLink true w' u r (fun a => w.heap.size ≤ a.block) → Below w.heap.size w w' → CdPost r (isFm s) w (.returned (.tuple #[.agg #[u], .bool (isFm s)])) w') := fun u w' h1 h2 => ⟨u, rfl, h1, h2⟩
  generalize isFm s = b at *
  have HX0 : Hid (InC (w.alloc (.cells #[.slice none 0 0] 29)) w.heap.size #[.slice none 0 0] 29) := heap_alloc_new _ _
  have x0 := HX0.out.cell 0 rfl
  have y0 := HX0.out.free 0
  have HB0 : Hid (Below w.heap.size w (w.alloc (.cells #[.slice none 0 0] 29))) := (Below.refl _ _).alloc (Nat.le_refl _) _
  go_enter Try.func23, Try.ntmps23
  go_wp2_with fail
  refine (HFM.out _).mono ?_
  rintro e w2 ⟨rfl, rfl⟩
  cases b
  · have HR : Hid (r = []) := HFC.out
    have hr := HR.out
    subst hr
    go_wp2
    refine bodyPost_ret (results_cell_rt rfl _ _ w.heap.size _ _ _ _ rfl HX0.out Try.underlying29 rfl infoCd1) rfl ?_
    exact HP.out _ _ (RowRd.nil _ _ _) HB0.out
  · have HR : Hid (r = faith s.data.toList) := HFC.out
    have h8 := HSZ.out rfl
    have hr := HR.out
    subst hr
    go_wp2_with fail
    go_loopw [12] (fun i wr => ∃ (k : Nat), k ≤ s.size ∧ i = .int .i64 k ∧ LkL wr (w.heap.size + 1) (faith (s.data.toList.take k)) ∧ InC wr w.heap.size #[.slice none 0 0] 29 ∧ Below w.heap.size w wr ∧ Hid (w.heap.size + 2 ≤ wr.heap.size)) (fun i _ => s.size - (intOf i).toNat)
    case atStart => exact ⟨0, by omega, rfl, box2 _ _ _, box1 _ _ _, ((Below.refl _ _).alloc (Nat.le_refl _) _).alloc (by simp) _, by unfold Hid; simp⟩
    case round =>
      obtain ⟨k, hk, rfl, hlk, hbx, hbe, hsz⟩ := hrel
      have HLK := Lib.hid hlk
      have HBX := Lib.hid hbx
      have HBE := Lib.hid hbe
      clear hlk hbx hbe x0 y0
      by_cases hkl : k < s.size
      · have HST := Lib.hid (faith_step s k hkl)
        have hlen := faith_len s k hk
        have HKP := Lib.hid (implKeep_any s[k] (faith (s.data.toList.take k)) (w.heap.size + 1) wr (by omega) HLK.out)
        go_wp2_with fail
        refine HKP.out.mono ?_
        rintro e w2 ⟨_, hk2⟩
        obtain ⟨rfl, hlk2, htc2⟩ := hk2 (by omega)
        have HLK2 := Lib.hid hlk2
        have HBX2 : Hid (InC w2 w.heap.size #[.slice none 0 0] 29) := htc2.inC (by omega) HBX.out
        have HBE2 : Hid (Below w.heap.size w w2) := HBE.out.trans (htc2.below (Nat.le_succ _))
        have HSZ2 : Hid (w.heap.size + 2 ≤ w2.heap.size) := by have := htc2.size; have := hsz.out; unfold Hid; omega
        clear hk2 hlk2 htc2 HKP
        go_wp2
        go_roundw
        case rel => exact ⟨k + 1, by omega, by go_num, by rw [HST.out]; exact HLK2.out, HBX2.out, HBE2.out, HSZ2⟩
        case measure => simp [intOf]; omega
      · obtain rfl : k = s.size := by omega
        have htk : s.data.toList.take s.size = s.data.toList := List.take_of_length_le (by simp)
        have hlen := faith_len s s.size (Nat.le_refl _)
        have HLK2 : Hid (LkL wr (w.heap.size + 1) (faith s.data.toList)) := by have := HLK.out; rwa [htk] at this
        rw [htk] at hlen
        have HCN := Lib.hid (implCnd_any (faith s.data.toList) (w.heap.size + 1) wr (by omega) HLK2.out)
        clear HLK htk
        go_wp2_with fail
        refine HCN.out.mono ?_
        rintro e w2 ⟨u, rfl, hrow, hb2⟩
        obtain ⟨A1, c1, rfl⟩ := hrow.form
        rw [hlen] at hrow
        have hbx2 := HBX.out.kept hb2
        have x2 := hbx2.cell 0 rfl
        have y2 := hbx2.free 0
        have HBX2 := Lib.hid hbx2
        have HROW := Lib.hid hrow
        have HB2 : Hid (Below w.heap.size w w2) := HBE.out.trans (hb2.mono HBE.out.size)
        clear hbx2 hrow hb2 HCN
        go_wp2
        (try simp only [Exit.inBlock, Exit.then])
        refine bodyPost_ret (results_cell_rt rfl _ _ w.heap.size _ _ _ _ rfl (HBX2.out.put 0 _) Try.underlying29 rfl infoCd1) rfl ?_
        exact HP.out _ _ ((HROW.out.apart (Unch.set (F := fun a => a.block = w.heap.size) rfl _) (fun a ha => by have := hsz.out; show ¬ a.block = w.heap.size; omega)).mono (fun a ha => Nat.le_trans HBE.out.size ha)) (HB2.out.setCell (Nat.le_refl _) _)
end Go.Proofs.Ytlekcnddejnejaa
