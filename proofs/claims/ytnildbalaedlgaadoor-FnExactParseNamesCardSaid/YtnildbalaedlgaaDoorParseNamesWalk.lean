/- The walk of FnExactParseNames: it returns true at every argument, and writes nothing that was there. -/
import Derived.Test.YtnildbalaedlgaaDoorPa10
import Derived.Test.YtnildbalaedlgaaDoorLs
import Derived.OpenShut
namespace Go.Proofs.YtnildbalaedlgaaDoor.fnExactParseNames
set_option maxRecDepth 100000
open Go.ChangeShapes Go.RowKit Go.Proofs.YtnildbalaedlgaaDoor
set_option maxHeartbeats 4000000 in
theorem walk (s : ByteArray) (w0 : s.size ≤ maxLen) (w : World) :
    Calls Tryd.prog 4 #[.string s] w fun e w' => e = .returned (.bool true) ∧ Below w.heap.size w w' := by
  have HW := Lib.hid w0
  have ws : s.size ≤ 9223372036854775807 := by unfold maxLen at w0; omega
  clear w0
  have HN : Hid ((prsN s).length ≤ 1000000) := by
    unfold Hid prsN
    split
    · rename_i h; have := areC_len h; omega
    · simp
  have HN9 : Hid ((prsN s).length ≤ 1000000000) := Nat.le_trans HN.out (by omega)
  go_enter Tryd.func4, Tryd.ntmps4
  by_cases hbig : (1048576 : Int) < (s.size : Int)
  · go_wp2
    go_ret
    exact ⟨rfl, Below.refl _ _⟩
  have hsz : s.size ≤ 4000000 := by omega
  generalize hbb : areC (cutB s) = bb at *
  have HBQ := Lib.hid hbb
  have HS : Hid (∀ W, Calls Tryd.prog 14 #[.string s] W (PrPost (prsN s) bb W)) := fun W => HBQ.out ▸ specPrs_any s W hsz
  have HI : Hid (∀ W, Calls Tryd.prog 15 #[.string s] W (PrPost (prsN s) bb W)) := fun W => HBQ.out ▸ implPrs_any s W hsz
  clear hbb HBQ
  go_wp2_with fail
  refine (HS.out _).mono ?_
  rintro e w1 ⟨v0, rfl, o1, hb1⟩
  have O0 := Lib.hid o1
  have B1 := Lib.hid hb1
  clear o1 hb1
  go_wp2_with fail
  refine (HI.out _).mono ?_
  rintro e w2 ⟨v1, rfl, o2, hb2⟩
  have O1 := Lib.hid o2
  have C2 := Lib.hid hb2
  clear o2 hb2
  go_wp2_with fail
  refine (eqStringS_any _ _ _ _ _ _ HN9.out O1.out (own_kept C2.out O0.out)).mono ?_
  rintro e w3 ⟨rfl, hb3⟩
  have C3 := Lib.hid (C2.out.trans (hb3.mono C2.out.size))
  have O13 := Lib.hid (own_kept hb3 O1.out)
  clear hb3
  go_wp2_with fail
  refine (markStringS_any _ _ _ _ HN.out O13.out C3.out.size).mono ?_
  rintro e w4 ⟨rfl, o4, hb4⟩
  have C4 := Lib.hid (C3.out.trans hb4)
  have O14 := Lib.hid o4
  clear o4 hb4
  go_wp2_with fail
  refine (heldStringS_any _ _ _ _ HN.out O14.out).mono ?_
  rintro e w5 ⟨rfl, hb5⟩
  have C5 := Lib.hid (C4.out.trans (hb5.mono C4.out.size))
  have O15 := Lib.hid (own_kept hb5 O14.out)
  clear hb5
  have hnn : ¬ 1 + ((prsN s).length : Int) < 0 := by omega
  go_wp2_with fail
  refine (HI.out _).mono ?_
  rintro e w6 ⟨v2, rfl, o6, hb6⟩
  have O26 := Lib.hid o6
  have O16 := Lib.hid (own_kept hb6 O15.out)
  have C6 := Lib.hid (C5.out.trans (hb6.mono C5.out.size))
  clear o6 hb6
  go_wp2_with fail
  refine (eqStringS_any _ _ _ _ _ _ HN9.out O26.out (own_kept C6.out O0.out)).mono ?_
  rintro e w7 ⟨rfl, hb7⟩
  have O17 := Lib.hid (own_kept hb7 O16.out)
  have C7 := Lib.hid (C6.out.trans (hb7.mono C6.out.size))
  clear hb7
  go_wp2_with fail
  refine (heldStringS_any _ _ _ _ HN.out O17.out).mono ?_
  rintro e w8 ⟨rfl, hb8⟩
  have C8 := Lib.hid (C7.out.trans (hb8.mono C7.out.size))
  clear hb8
  go_wp2
  go_ret
  exact ⟨rfl, B1.out.trans (C8.out.mono B1.out.size)⟩
end Go.Proofs.YtnildbalaedlgaaDoor.fnExactParseNames
