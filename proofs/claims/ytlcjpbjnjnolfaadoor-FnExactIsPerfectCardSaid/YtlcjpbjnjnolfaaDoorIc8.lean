/- The program's marks of forms: what they answer. -/
import Derived.Test.YtlcjpbjnjnolfaaDoorIm8
namespace Go.Proofs.YtlcjpbjnjnolfaaDoor
set_option maxRecDepth 100000
open Go.RowKit Go.Sort M

theorem implOns_any (s : ByteArray) (w : World) (hs : s.size ≤ maxLen) (hT : FeatTab w) :
    Calls Tryd.prog 11 #[.string s] w fun e w' => e = .returned (.int .i64 (mkC nconsB vowB s)) ∧ Below w.heap.size w w' := by
  have HM := Lib.hid hs
  have HT := Lib.hid hT
  clear hs hT
  go_enter Tryd.func11, Tryd.ntmps11
  go_wp2_with fail
  refine (not_any 27 _ w (cCons _ HT.out)).mono ?_
  rintro e w1 ⟨a, rfl, hb1, hc⟩
  have HB1 := Lib.hid hb1
  have HC := Lib.hid hc
  have HT1 := Lib.hid (feat_below HT.out hb1)
  clear hb1 hc
  go_wp2_with fail
  refine (countIn_any 40 28 #[.pointer (some ⟨a, 0, none⟩)] #[] nconsB vowB s _ HM.out HC.out (cVow _ HT1.out)).mono ?_
  rintro e w2 ⟨rfl, hb⟩
  have HB2 := Lib.hid (HB1.out.trans (hb.mono HB1.out.size))
  clear hb
  go_wp2
  go_ret
  exact ⟨rfl, HB2.out⟩
theorem implCod_any (s : ByteArray) (w : World) (hs : s.size ≤ maxLen) (hT : FeatTab w) :
    Calls Tryd.prog 13 #[.string s] w fun e w' => e = .returned (.int .i64 (mkC consB nvowB s)) ∧ Below w.heap.size w w' := by
  have HM := Lib.hid hs
  have HT := Lib.hid hT
  clear hs hT
  go_enter Tryd.func13, Tryd.ntmps13
  go_wp2_with fail
  refine (not_any 28 _ w (cVow _ HT.out)).mono ?_
  rintro e w1 ⟨a, rfl, hb1, hc⟩
  have HB1 := Lib.hid hb1
  have HC := Lib.hid hc
  have HT1 := Lib.hid (feat_below HT.out hb1)
  clear hb1 hc
  go_wp2_with fail
  refine (countIn_any 27 40 #[] #[.pointer (some ⟨a, 0, none⟩)] consB nvowB s _ HM.out (cCons _ HT1.out) HC.out).mono ?_
  rintro e w2 ⟨rfl, hb⟩
  have HB2 := Lib.hid (HB1.out.trans (hb.mono HB1.out.size))
  clear hb
  go_wp2
  go_ret
  exact ⟨rfl, HB2.out⟩
theorem implClu_any (s : ByteArray) (w : World) (hs : s.size ≤ maxLen) (hT : FeatTab w) :
    Calls Tryd.prog 15 #[.string s] w fun e w' => e = .returned (.int .i64 (mkC consB consB s)) ∧ Below w.heap.size w w' := by
  have HM := Lib.hid hs
  have HT := Lib.hid hT
  clear hs hT
  go_enter Tryd.func15, Tryd.ntmps15
  go_wp2_with fail
  refine (countIn_any 27 27 #[] #[] consB consB s _ HM.out (cCons _ HT.out) (cCons _ HT.out)).mono ?_
  rintro e w2 ⟨rfl, hb⟩
  go_wp2
  go_ret
  exact ⟨rfl, hb⟩
theorem implVoi_any (s : ByteArray) (w : World) (hs : s.size ≤ maxLen) (hT : FeatTab w) :
    Calls Tryd.prog 17 #[.string s] w fun e w' => e = .returned (.int .i64 (mkC anyB vobB s)) ∧ Below w.heap.size w w' := by
  have HM := Lib.hid hs
  have HT := Lib.hid hT
  clear hs hT
  go_enter Tryd.func17, Tryd.ntmps17
  go_wp2_with fail
  refine (countIn_any 31 32 #[] #[] anyB vobB s _ HM.out (cAny _) (cVob _ HT.out)).mono ?_
  rintro e w2 ⟨rfl, hb⟩
  go_wp2
  go_ret
  exact ⟨rfl, hb⟩
theorem implFin_any (s : ByteArray) (w : World) (hs : s.size ≤ maxLen) (hT : FeatTab w) :
    Calls Tryd.prog 19 #[.string s] w fun e w' => e = .returned (.int .i64 (mkC vobB edgB s)) ∧ Below w.heap.size w w' := by
  have HM := Lib.hid hs
  have HT := Lib.hid hT
  clear hs hT
  go_enter Tryd.func19, Tryd.ntmps19
  go_wp2_with fail
  refine (countIn_any 32 33 #[] #[] vobB edgB s _ HM.out (cVob _ HT.out) (cEdg _)).mono ?_
  rintro e w2 ⟨rfl, hb⟩
  go_wp2
  go_ret
  exact ⟨rfl, hb⟩
theorem implNas_any (s : ByteArray) (w : World) (hs : s.size ≤ maxLen) (hT : FeatTab w) :
    Calls Tryd.prog 21 #[.string s] w fun e w' => e = .returned (.int .i64 (mkC nasB vlsB s)) ∧ Below w.heap.size w w' := by
  have HM := Lib.hid hs
  have HT := Lib.hid hT
  clear hs hT
  go_enter Tryd.func21, Tryd.ntmps21
  go_wp2_with fail
  refine (countIn_any 36 37 #[] #[] nasB vlsB s _ HM.out (cNas _ HT.out) (cVls _ HT.out)).mono ?_
  rintro e w2 ⟨rfl, hb⟩
  go_wp2
  go_ret
  exact ⟨rfl, hb⟩
set_option maxHeartbeats 800000 in
theorem implPerf_any (s : ByteArray) (w : World) (hs : s.size ≤ maxLen) (hT : FeatTab w) :
    Calls Tryd.prog 23 #[.string s] w fun e w' => e = .returned (.bool (perf s)) ∧ Below w.heap.size w w' := by
  have HM := Lib.hid hs
  have HT := Lib.hid hT
  clear hs hT
  have h1 := mkC_le nconsB vowB s
  have h2 := mkC_le consB nvowB s
  have h3 := mkC_le consB consB s
  have h4 := mkC_le anyB vobB s
  have h5 := mkC_le nasB vlsB s
  have HP : Hid (perf s = (isFm s && ((mkC nconsB vowB s : Int) + (mkC consB nvowB s : Int) + (mkC consB consB s : Int) + (mkC anyB vobB s : Int) + (mkC nasB vlsB s : Int) == 0))) := rfl
  have HB0 := Lib.hid (Below.refl w.heap.size w)
  go_enter Tryd.func23, Tryd.ntmps23
  go_wp2_with fail
  refine (implOns_any s _ HM.out (feat_below HT.out HB0.out)).mono ?_
  rintro e w1 ⟨rfl, hb⟩
  have HB1 := Lib.hid (HB0.out.trans (hb.mono HB0.out.size))
  clear hb
  go_wp2_with fail
  refine (implCod_any s _ HM.out (feat_below HT.out HB1.out)).mono ?_
  rintro e w2 ⟨rfl, hb⟩
  have HB2 := Lib.hid (HB1.out.trans (hb.mono HB1.out.size))
  clear hb
  go_wp2_with fail
  refine (implClu_any s _ HM.out (feat_below HT.out HB2.out)).mono ?_
  rintro e w3 ⟨rfl, hb⟩
  have HB3 := Lib.hid (HB2.out.trans (hb.mono HB2.out.size))
  clear hb
  go_wp2_with fail
  refine (implVoi_any s _ HM.out (feat_below HT.out HB3.out)).mono ?_
  rintro e w4 ⟨rfl, hb⟩
  have HB4 := Lib.hid (HB3.out.trans (hb.mono HB3.out.size))
  clear hb
  go_wp2_with fail
  refine (implNas_any s _ HM.out (feat_below HT.out HB4.out)).mono ?_
  rintro e w5 ⟨rfl, hb⟩
  have HB5 := Lib.hid (HB4.out.trans (hb.mono HB4.out.size))
  clear hb
  go_wp2_with fail
  refine (implFmS_any s _ HM.out).mono ?_
  rintro e w6 ⟨rfl, rfl⟩
  go_wp2
  · have hy : isFm s = true := by assumption
    go_ret
    exact ⟨ret_bool (by rw [HP.out, hy, Bool.true_and]), HB5.out⟩
  · have hy : isFm s = false := by
      cases h : isFm s with
      | true => exact absurd h (by assumption)
      | false => rfl
    go_ret
    exact ⟨ret_bool (by rw [HP.out, hy, Bool.false_and]), HB5.out⟩
end Go.Proofs.YtlcjpbjnjnolfaaDoor
