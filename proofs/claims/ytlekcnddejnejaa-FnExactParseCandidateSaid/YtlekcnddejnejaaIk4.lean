/- The program's ParseCandidate: what it answers. -/
import Derived.Test.YtlekcnddejnejaaIk3
import Derived.Test.YtlekcnddejnejaaIc4
namespace Go.Proofs.Ytlekcnddejnejaa
open Go.RowKit M
set_option linter.unusedVariables false
set_option linter.unusedSimpArgs false

theorem none_iff (s : ByteArray) : s = ⟨#[110, 111, 110, 101]⟩ ↔ s.data.toList = noneB := by
  constructor
  · rintro rfl; rfl
  · intro h
    apply ByteArray.ext
    apply Array.toList_inj.1
    exact h
theorem text_iff (l : List UInt8) (s : ByteArray) : (⟨l.toArray⟩ : ByteArray) = s ↔ l = s.data.toList := by
  constructor
  · rintro rfl; simp
  · rintro rfl
    apply ByteArray.ext
    simp
def prL (s : List UInt8) : List DLink := (prP s).getD []
def prB (s : List UInt8) : Bool := (prP s).isSome
theorem pr_none {s : List UInt8} (h : s = noneB) : prL s = [] ∧ prB s = true := by unfold prL prB prP; rw [if_pos h]; exact ⟨rfl, rfl⟩
theorem pr_no {s : List UInt8} (hn : ¬ s = noneB) (h : ¬ ((rdT s).2.length ≤ 16 ∧ fmtC (rdT s).2 = s)) : prL s = [] ∧ prB s = false := by unfold prL prB prP; rw [if_neg hn, if_neg h]; exact ⟨rfl, rfl⟩
theorem pr_yes {s : List UInt8} (hn : ¬ s = noneB) (h : (rdT s).2.length ≤ 16 ∧ fmtC (rdT s).2 = s) : prL s = (rdT s).2 ∧ prB s = true := by unfold prL prB prP; rw [if_neg hn, if_pos h]; exact ⟨rfl, rfl⟩
theorem fmt_nil : fmtC [] = noneB := by decide
theorem toList_ne {a b : ByteArray} (h : ¬ a = b) : (a.toList == b.toList) = false := by
  have h1 : ¬ a.toList = b.toList := fun e => h (by
    rw [Lib.toList_data, Lib.toList_data] at e
    apply ByteArray.ext
    exact Array.toList_inj.1 e)
  simpa using h1
set_option maxHeartbeats 4000000 in
theorem implParse_any (s : ByteArray) (w : World) (hs : s.size ≤ 1048576) :
    Calls Try.prog 29 #[.string s] w (CdPost (prL s.data.toList) (prB s.data.toList) w) := by
  have HP : Hid (∀ u w', RowRd rLink true w' u (prL s.data.toList) (fun a => w.heap.size ≤ a.block) → Below w.heap.size w w' → CdPost (prL s.data.toList) (prB s.data.toList) w (.returned (.tuple #[.agg #[u], .bool (prB s.data.toList)])) w') := fun u w' h1 h2 => ⟨u, rfl, h1, h2⟩
  have HNN : Hid (s.data.toList = noneB → prL s.data.toList = [] ∧ prB s.data.toList = true) := pr_none
  have HNO : Hid (¬ s.data.toList = noneB → ¬ ((rdT s.data.toList).2.length ≤ 16 ∧ fmtC (rdT s.data.toList).2 = s.data.toList) → prL s.data.toList = [] ∧ prB s.data.toList = false) := pr_no
  have HYES : Hid (¬ s.data.toList = noneB → (rdT s.data.toList).2.length ≤ 16 ∧ fmtC (rdT s.data.toList).2 = s.data.toList → prL s.data.toList = (rdT s.data.toList).2 ∧ prB s.data.toList = true) := pr_yes
  have HEQ : Hid (∀ l, (⟨(fmtC l).toArray⟩ : ByteArray) = s ↔ fmtC l = s.data.toList) := fun l => text_iff _ _
  have HNI : Hid (s = ⟨#[110, 111, 110, 101]⟩ ↔ s.data.toList = noneB) := none_iff s
  generalize prL s.data.toList = r at *
  generalize prB s.data.toList = b at *
  have HLK : Hid (LkL ((w.alloc (.cells #[.slice none 0 0] 29)).alloc (.cells (llL []).toArray 53)) (w.heap.size + 1) []) := box2 _ _ _
  have HBX : Hid (InC ((w.alloc (.cells #[.slice none 0 0] 29)).alloc (.cells (llL []).toArray 53)) w.heap.size #[.slice none 0 0] 29) := box1 _ _ _
  have HBE : Hid (Below w.heap.size w ((w.alloc (.cells #[.slice none 0 0] 29)).alloc (.cells (llL []).toArray 53))) := ((Below.refl _ _).alloc (Nat.le_refl _) _).alloc (by simp) _
  have HSZ : Hid (w.heap.size + 2 ≤ ((w.alloc (.cells #[.slice none 0 0] 29)).alloc (.cells (llL []).toArray 53)).heap.size) := by unfold Hid; simp
  go_enter Try.func29, Try.ntmps29
  by_cases hn : s = ⟨#[110, 111, 110, 101]⟩
  · obtain ⟨hr, hb⟩ := HNN.out (HNI.out.1 hn)
    subst hr hb hn
    have hft : (⟨(fmtC []).toArray⟩ : ByteArray) = ⟨#[110, 111, 110, 101]⟩ := by rw [fmt_nil]; rfl
    have HCN := Lib.hid (implCnd_any ([] : List DLink) (w.heap.size + 1) ((w.alloc (.cells #[.slice none 0 0] 29)).alloc (.cells (llL []).toArray 53)) (Nat.zero_le 16 : ([] : List DLink).length ≤ 16) HLK.out)
    go_wp2_with fail
    refine HCN.out.mono ?_
    rintro e w2 ⟨u, rfl, hrow, hb2⟩
    obtain ⟨A1, c1, rfl⟩ := hrow.form
    have HFT := Lib.hid (implFmt_cd ⟨([] : List DLink)⟩ _ _ (w2.alloc (.cells #[.slice A1 (([] : List DLink)).length c1] 29)) (show (([] : List DLink)).length ≤ 1048576 from Nat.le_trans (Nat.zero_le 16 : ([] : List DLink).length ≤ 16) (by omega)) (hrow.kept ((Below.refl _ _).alloc (Nat.le_refl _) _)).weak)
    have HROW := Lib.hid hrow
    have HBX2 := Lib.hid (HBX.out.kept hb2)
    have HB2 : Hid (Below w.heap.size w w2) := HBE.out.trans (hb2.mono HBE.out.size)
    have HWS : Hid (w.heap.size + 2 ≤ (((w.alloc (.cells #[.slice none 0 0] 29)).alloc (.cells (llL []).toArray 53))).heap.size ∧ (((w.alloc (.cells #[.slice none 0 0] 29)).alloc (.cells (llL []).toArray 53))).heap.size ≤ w2.heap.size) := ⟨HSZ.out, hb2.size⟩
    clear hrow hb2 HCN
    go_wp2_with fail
    refine HFT.out.mono ?_
    rw [hft]
    rintro e w3 ⟨rfl, hb3⟩
    have HROW3 : Hid (RowRd rLink true w3 (.slice A1 (([] : List DLink)).length c1) (([] : List DLink)) (fun a => (((w.alloc (.cells #[.slice none 0 0] 29)).alloc (.cells (llL []).toArray 53))).heap.size ≤ a.block)) := (HROW.out.kept ((Below.refl _ _).alloc (Nat.le_refl _) _)).kept hb3
    have hbx3 := (HBX2.out.kept ((Below.refl _ _).alloc (Nat.le_refl _) _)).kept hb3
    have hcx3 : InC w3 w2.heap.size #[.slice A1 (([] : List DLink)).length c1] 29 := InC.kept (heap_alloc_new w2 _) hb3
    have x3 := hbx3.cell 0 rfl
    have y3 := hbx3.free 0
    have z3 := hcx3.cell 0 rfl
    have HBX3 := Lib.hid hbx3
    have HB3 : Hid (Below w.heap.size w w3) := (HB2.out.alloc HB2.out.size _).trans (hb3.mono (by have := HB2.out.size; simp; omega))
    clear hb3 hbx3 hcx3 HFT
    go_wp2
    (try simp only [Exit.inBlock, Exit.then])
    refine bodyPost_ret (results_cell_rt rfl _ _ w.heap.size _ _ _ _ rfl (HBX3.out.put 0 _) Try.underlying29 rfl infoCd1) rfl ?_
    exact HP.out _ _ ((HROW3.out.apart (Unch.set (F := fun a => a.block = w.heap.size) rfl _) (fun a ha => by have := HWS.out; show ¬ a.block = w.heap.size; omega)).mono (fun a ha => by have := HWS.out; have h : _ ≤ a.block := ha; omega)) (HB3.out.setCell (Nat.le_refl _) _)
  · have hnn : ¬ s.data.toList = noneB := fun h => hn (HNI.out.2 h)
    have hq1 : (s.toList == [110, 111, 110, 101]) = false := by
      rw [Lib.toList_data]
      have h1 : ¬ s.data.toList = [110, 111, 110, 101] := hnn
      simpa using h1
    have HRD := Lib.hid (implRead_any s (w.heap.size + 1) _ hs HLK.out)
    go_wp2_with fail
    refine HRD.out.mono ?_
    rintro e w1 ⟨ok, rfl, hok, hno, htc⟩
    have HB1 : Hid (Below w.heap.size w w1) := HBE.out.trans (htc.below (Nat.le_succ _))
    have hbx1 := htc.inC (by omega) HBX.out
    have x1 := hbx1.cell 0 rfl
    have y1 := hbx1.free 0
    have HBX1 := Lib.hid hbx1
    have HSZ1 : Hid (w.heap.size + 2 ≤ w1.heap.size) := by have := htc.size; have := HSZ.out; unfold Hid; omega
    have HOK := Lib.hid hok
    have HNK := Lib.hid hno
    clear htc hbx1 HRD hok hno HLK HBX HBE HSZ
    cases ok
    · have hbig := HNK.out rfl
      obtain ⟨hr, hb⟩ := HNO.out hnn (fun h => by have := h.1; omega)
      subst hr hb
      clear hbig
      go_wp2
      (try simp only [Exit.inBlock, Exit.then])
      refine bodyPost_ret (results_cell_rt rfl _ _ w.heap.size _ _ _ _ rfl (HBX1.out.put 0 _) Try.underlying29 rfl infoCd1) rfl ?_
      exact HP.out _ _ (RowRd.nil _ _ _) (HB1.out.setCell (Nat.le_refl _) _)
    · have hle := (HOK.out rfl).1
      have HLK1 := Lib.hid (HOK.out rfl).2
      clear HOK HNK
      generalize rdT s.data.toList = st at *
      obtain ⟨sg, ls⟩ := st
      have hle2 : ls.length ≤ 16 := hle
      have HCN := Lib.hid (implCnd_any ls (w.heap.size + 1) w1 hle2 HLK1.out)
      go_wp2_with fail
      refine HCN.out.mono ?_
      rintro e w2 ⟨u, rfl, hrow, hb2⟩
      obtain ⟨A1, c1, rfl⟩ := hrow.form
      have HFT := Lib.hid (implFmt_cd ⟨ls⟩ _ _ (w2.alloc (.cells #[.slice A1 (ls).length c1] 29)) (show (ls).length ≤ 1048576 from Nat.le_trans hle2 (by omega)) (hrow.kept ((Below.refl _ _).alloc (Nat.le_refl _) _)).weak)
      have HROW := Lib.hid hrow
      have HBX2 := Lib.hid (HBX1.out.kept hb2)
      have HB2 : Hid (Below w.heap.size w w2) := HB1.out.trans (hb2.mono HB1.out.size)
      have HWS : Hid (w.heap.size + 2 ≤ (w1).heap.size ∧ (w1).heap.size ≤ w2.heap.size) := ⟨HSZ1.out, hb2.size⟩
      clear hrow hb2 HCN
      go_wp2_with fail
      refine HFT.out.mono ?_
      rintro e w3 ⟨rfl, hb3⟩
      have HROW3 : Hid (RowRd rLink true w3 (.slice A1 (ls).length c1) (ls) (fun a => (w1).heap.size ≤ a.block)) := (HROW.out.kept ((Below.refl _ _).alloc (Nat.le_refl _) _)).kept hb3
      have hbx3 := (HBX2.out.kept ((Below.refl _ _).alloc (Nat.le_refl _) _)).kept hb3
      have hcx3 : InC w3 w2.heap.size #[.slice A1 (ls).length c1] 29 := InC.kept (heap_alloc_new w2 _) hb3
      have x3 := hbx3.cell 0 rfl
      have y3 := hbx3.free 0
      have z3 := hcx3.cell 0 rfl
      have HBX3 := Lib.hid hbx3
      have HB3 : Hid (Below w.heap.size w w3) := (HB2.out.alloc HB2.out.size _).trans (hb3.mono (by have := HB2.out.size; simp; omega))
      clear hb3 hbx3 hcx3 HFT
      by_cases hf : fmtC ls = s.data.toList
      · obtain ⟨hr, hb⟩ := HYES.out hnn ⟨hle2, hf⟩
        have hS : (⟨(fmtC ls).toArray⟩ : ByteArray) = s := (HEQ.out _).2 hf
        rw [hS]
        have HR := Lib.hid hr
        subst hb
        clear hr hf hS
        go_wp2
        (try simp only [Exit.inBlock, Exit.then])
        refine bodyPost_ret (results_cell_rt rfl _ _ w.heap.size _ _ _ _ rfl (HBX3.out.put 0 _) Try.underlying29 rfl infoCd1) rfl ?_
        exact HP.out _ _ (by rw [HR.out]; exact (HROW3.out.apart (Unch.set (F := fun a => a.block = w.heap.size) rfl _) (fun a ha => by have := HWS.out; show ¬ a.block = w.heap.size; omega)).mono (fun a ha => by have := HWS.out; have h : _ ≤ a.block := ha; omega)) (HB3.out.setCell (Nat.le_refl _) _)
      · obtain ⟨hr, hb⟩ := HNO.out hnn (fun h => hf h.2)
        subst hr hb
        have hS : ¬ (⟨(fmtC ls).toArray⟩ : ByteArray) = s := fun e => hf ((HEQ.out _).1 e)
        generalize (⟨(fmtC ls).toArray⟩ : ByteArray) = S at *
        have hq2 : (S.toList == s.toList) = false := toList_ne hS
        go_wp2
        (try simp only [Exit.inBlock, Exit.then])
        refine bodyPost_ret (results_cell_rt rfl _ _ w.heap.size _ _ _ _ rfl (HBX3.out.put 0 _) Try.underlying29 rfl infoCd1) rfl ?_
        exact HP.out _ _ (RowRd.nil _ _ _) (HB3.out.setCell (Nat.le_refl _) _)
end Go.Proofs.Ytlekcnddejnejaa
