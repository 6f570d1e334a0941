/- The walk of FnFeet: it returns true at every code, and writes nothing that was there. -/
import Derived.Test.YtifmcbhgoncgjaaDoorDi
import Derived.Test.YtifmcbhgoncgjaaDoorFk
import Derived.Test.YtifmcbhgoncgjaaDoorSf4
import Derived.Test.YtifmcbhgoncgjaaDoorSm5
import Derived.Test.YtifmcbhgoncgjaaDoorIf4f
import Derived.Test.YtifmcbhgoncgjaaDoorIf3f
import Derived.Test.YtifmcbhgoncgjaaDoorIf7f
import Derived.Test.YtifmcbhgoncgjaaDoorIf8f
import Derived.Deep.DeepCutAuto
namespace Go.Proofs.YtifmcbhgoncgjaaDoor.fnFeet
open Go.RowKit M Go.Proofs.YtifmcbhgoncgjaaDoor
set_option linter.unusedVariables false
set_option linter.unusedSimpArgs false

theorem from_here {f : FuncId} {args : Array Value} {wr W : World} {v : Value} (hW : Below wr.heap.size wr W) (h : Calls Tryd.prog f args W fun e w' => e = .returned v ∧ Below W.heap.size W w') : Calls Tryd.prog f args W fun e w' => e = .returned v ∧ Below wr.heap.size wr w' :=
  h.mono fun e w' ⟨a, b⟩ => ⟨a, hW.trans (b.mono hW.size)⟩
theorem own_here {α : Type} {E : Rep α} {l : List α} {f : FuncId} {args : Array Value} {wr W : World} (hW : Below wr.heap.size wr W) (h : Calls Tryd.prog f args W (OwnPost E l W)) : Calls Tryd.prog f args W fun e w' => ∃ (A : Option Addr) (c : Nat), e = .returned (.slice A l.length c) ∧ RowRd E false w' (.slice A l.length c) l (fun _ => True) ∧ Below wr.heap.size wr w' :=
  h.mono fun e w' ⟨u, a, b, c⟩ => by
    obtain ⟨A, cp, rfl⟩ := b.form
    exact ⟨A, cp, a, b.weak.mono fun _ _ => trivial, hW.trans (c.mono hW.size)⟩
theorem same_here {wr W : World} (hW : Below wr.heap.size wr W) {u v : Value} {s : List Int} {F G : Addr → Prop} (hu : RowRd Rep.int false W u s F) (hv : RowRd Rep.int false W v s G) : Calls Tryd.prog 11 #[u, v] W fun e w' => e = .returned (.bool true) ∧ Below wr.heap.size wr w' := by
  have h := same5_any u v s s F G W hu hv
  rw [decide_eq_true rfl] at h
  exact from_here hW h
theorem feq_self (x : DFooting) : feq x x = true := by simp [feq]
theorem footFor_row {s : List Int} {f : DFooting} (h : f ∈ footFor s) : f.Feet.length ≤ 4 := by
  unfold footFor at h
  exact footAll_row (List.mem_filter.1 h).1
/-- What an element of a row of footings is. -/
theorem ft_at {W : World} {A : Option Addr} {n cap : Nat} {l : List DFooting} {F : Addr → Prop} (h : RowRd rFooting false W (.slice A n cap) l F) {k : Nat} {x : DFooting} (hk : l[k]? = some x) :
    ∃ (g off : Nat) (A1 : Option Addr) (c1 : Nat), A = some ⟨g, off, none⟩ ∧ RowRd rFoot false W (.slice A1 x.Feet.length c1) x.Feet (fun _ => True) ∧ I64 x.Syllables ∧ I64 x.Main ∧
      W.cell? ⟨g, off + k * 3, none⟩ = some (.int .i64 x.Syllables) ∧ W.cell? ⟨g, off + k * 3 + 1, none⟩ = some (.slice A1 x.Feet.length c1) ∧ W.cell? ⟨g, off + k * 3 + 2, none⟩ = some (.int .i64 x.Main) := by
  obtain ⟨g, off, xs, Fk, hA, _, hrd, _, hc⟩ := h.get hk
  obtain ⟨v1, rfl, i0, hq, i2⟩ := rFooting_rd hrd
  obtain ⟨A1, c1, rfl⟩ := hq.form
  have d0 := hc 0 _ rfl
  have d1 := hc 1 _ rfl
  have d2 := hc 2 _ rfl
  rw [rFooting_size] at d0 d1 d2
  exact ⟨g, off, A1, c1, hA, hq.mono fun _ _ => trivial, i0, i2, d0, d1, d2⟩
set_option maxRecDepth 100000 in
set_option maxHeartbeats 16000000 in
theorem walk (A : Option Addr) (len cap : Nat) (w : World) (hcode : CodeArg w A len) (hmax : len ≤ maxLen) :
    Calls Tryd.prog 3 #[.slice A len cap] w fun e w' => e = .returned (.bool true) ∧ Below w.heap.size w w' := by
  have HC := Lib.hid hcode
  clear hcode
  unfold maxLen at hmax
  by_cases hbig : 1048576 < len
  · go_enter Tryd.func3, Tryd.ntmps3
    go_wp2
    go_ret
    exact ⟨rfl, Below.refl _ _⟩
  have hl : len ≤ 1048576 := by omega
  go_enter Tryd.func3, Tryd.ntmps3
  go_wp2_with (go_at_call 5; go_in)
  refine (drawFF_ok _ A len cap hl HC.out).mono ?_
  rintro e w1 ⟨s, u, rfl, hs, hsl, hb1⟩
  obtain ⟨As, cs, rfl⟩ := hs.form
  have HS := Lib.hid hs.weak
  have HB1 := Lib.hid hb1
  clear hs hb1
  go_wp2_with fail
  refine (implFFor_any _ s _ w1 HS.out).mono ?_
  rintro e w2 ⟨u2, rfl, hr2, hb2⟩
  obtain ⟨A2, c2, rfl⟩ := hr2.form
  have HR2 := Lib.hid hr2.weak
  have HS2 := Lib.hid (HS.out.kept hb2)
  have HB2 := Lib.hid (HB1.out.trans (hb2.mono HB1.out.size))
  clear hr2 hb2 HB1 HS
  go_wp2_with fail
  refine (specFFor_any _ s _ w2 HS2.out).mono ?_
  rintro e w3 ⟨u3, rfl, hr3, hb3⟩
  obtain ⟨A3, c3, rfl⟩ := hr3.form
  have HR3 := Lib.hid hr3.weak
  have HR23 := Lib.hid (HR2.out.kept hb3)
  have HS3 := Lib.hid (HS2.out.kept hb3)
  have HB3 := Lib.hid (HB2.out.trans (hb3.mono HB2.out.size))
  clear hr3 hb3 HB2 HS2 HR2
  have HX : Hid (∀ k, k < (footFor s).length → ∃ x, (footFor s)[k]? = some x ∧ isFt x = true ∧ strL x = s ∧ x.Feet.length ≤ 4) := fun k hk => by
    have hm := List.getElem_mem hk
    obtain ⟨q1, q2⟩ := footFor_ok hm
    exact ⟨_, List.getElem?_eq_getElem hk, q1, q2, footFor_row hm⟩
  have HLN : Hid ((footFor s).length ≤ 1000000) := by
    unfold Hid footFor
    exact Nat.le_trans (List.length_filter_le _ _) (Nat.le_trans (footAll_len _) (by omega))
  generalize footFor s = R at *
  generalize hn : R.length = n at *
  have hln := HLN.out
  clear hn
  go_wp2
  go_loopw [6] (fun i wr => ∃ (k : Nat), k ≤ n ∧ i = .int .i64 k ∧ Below w3.heap.size w3 wr) (fun i _ => n - (intOf i).toNat)
  case atStart => exact ⟨0, by omega, rfl, Below.refl _ _⟩
  case round =>
    obtain ⟨k, hk, rfl, hbr⟩ := hrel
    have HBR := Lib.hid hbr
    by_cases hkl : k < n
    · obtain ⟨x, hx, hft, hst, hx4⟩ := HX.out k hkl
      obtain ⟨gl, ol, Al, cl, rfl, hql, i0, i2, l0, l1, l2⟩ := ft_at (HR23.out.kept hbr) hx
      obtain ⟨gm, om, Am, cm, rfl, hqm, _, _, m0, m1, m2⟩ := ft_at (HR3.out.kept hbr) hx
      have HEQ : Hid (∀ W, Below wr.heap.size wr W → Calls Tryd.prog 9 #[.agg #[.int .i64 x.Syllables, .slice Al x.Feet.length cl, .int .i64 x.Main], .agg #[.int .i64 x.Syllables, .slice Am x.Feet.length cm, .int .i64 x.Main]] W fun e w' => e = .returned (.bool true) ∧ Below wr.heap.size wr w') := fun W hW => by
        have h := specEqF_any x x _ _ _ _ W (hql.kept hW) (hqm.kept hW)
        rw [feq_self] at h
        exact from_here hW h
      have HISF : Hid (∀ W, Below wr.heap.size wr W → Calls Tryd.prog 10 #[.agg #[.int .i64 x.Syllables, .slice Am x.Feet.length cm, .int .i64 x.Main]] W fun e w' => e = .returned (.bool true) ∧ Below wr.heap.size wr w') := fun W hW => by
        have h := implIsF_any x _ _ W (by omega) i0 i2 (hqm.kept hW)
        rw [hft] at h
        exact from_here hW h
      have HSTR : Hid (∀ W, Below wr.heap.size wr W → Calls Tryd.prog 12 #[.agg #[.int .i64 x.Syllables, .slice Am x.Feet.length cm, .int .i64 x.Main]] W fun e w' => ∃ (A : Option Addr) (c : Nat), e = .returned (.slice A s.length c) ∧ RowRd Rep.int false w' (.slice A s.length c) s (fun _ => True) ∧ Below wr.heap.size wr w') := fun W hW => by
        have h := implStr_any x _ _ W (by omega) i0 i2 (hqm.kept hW)
        rw [hst] at h
        exact own_here hW h
      have HSR := Lib.hid (HS3.out.kept hbr)
      have HKEEP : Hid (∀ W, Below wr.heap.size wr W → W.cell? ⟨gl, ol + k * 3, none⟩ = some (.int .i64 x.Syllables) ∧ W.cell? ⟨gl, ol + k * 3 + 1, none⟩ = some (.slice Al x.Feet.length cl) ∧ W.cell? ⟨gl, ol + k * 3 + 2, none⟩ = some (.int .i64 x.Main) ∧ W.cell? ⟨gm, om + k * 3, none⟩ = some (.int .i64 x.Syllables) ∧ W.cell? ⟨gm, om + k * 3 + 1, none⟩ = some (.slice Am x.Feet.length cm) ∧ W.cell? ⟨gm, om + k * 3 + 2, none⟩ = some (.int .i64 x.Main)) := fun W hW =>
        ⟨(hW.cell (block_lt_of_cell l0)).trans l0, (hW.cell (block_lt_of_cell l1)).trans l1, (hW.cell (block_lt_of_cell l2)).trans l2, (hW.cell (block_lt_of_cell m0)).trans m0, (hW.cell (block_lt_of_cell m1)).trans m1, (hW.cell (block_lt_of_cell m2)).trans m2⟩
      have hki : (k : Int) < (n : Int) := by omega
      clear hql hqm i0 i2 hx hft hst hbr
      generalize x.Syllables = fS at *
      generalize x.Main = fM at *
      generalize x.Feet = l at *
      go_wp2_with fail
      go_region_held3 (fun w' => w'.cell? ⟨gl, ol + k * 3, none⟩ = some (.int .i64 fS) ∧ w'.cell? ⟨gl, ol + k * 3 + 1, none⟩ = some (.slice Al l.length cl) ∧ w'.cell? ⟨gl, ol + k * 3 + 2, none⟩ = some (.int .i64 fM) ∧ w'.cell? ⟨gm, om + k * 3, none⟩ = some (.int .i64 fS) ∧ w'.cell? ⟨gm, om + k * 3 + 1, none⟩ = some (.slice Am l.length cm) ∧ w'.cell? ⟨gm, om + k * 3 + 2, none⟩ = some (.int .i64 fM))
        (first | with_reducible exact HKEEP.out _ hbe | go_keep)
        (first
          | (go_at_call 9; refine (HEQ.out _ ?_).mono ?_; (first | exact ⟨rfl, rfl, rfl, Nat.le_refl _, fun _ _ => rfl⟩ | exact hbe | exact ⟨hbe.os, hbe.tape, hbe.output, hbe.size, hbe.block⟩); rintro e wa ⟨rfl, hbe⟩)
          | (go_at_call 10; refine (HISF.out _ ?_).mono ?_; (first | exact ⟨rfl, rfl, rfl, Nat.le_refl _, fun _ _ => rfl⟩ | exact hbe | exact ⟨hbe.os, hbe.tape, hbe.output, hbe.size, hbe.block⟩); rintro e wa ⟨rfl, hbe⟩)
          | (go_at_call 12; refine (HSTR.out _ ?_).mono ?_; (first | exact ⟨rfl, rfl, rfl, Nat.le_refl _, fun _ _ => rfl⟩ | exact hbe | exact ⟨hbe.os, hbe.tape, hbe.output, hbe.size, hbe.block⟩); rintro e wa ⟨A5, c5, rfl, hr5, hbe⟩; have HR5 := Lib.hid hr5; have HBE5 := Lib.hid hbe)
          | (go_at_call 11; refine (same_here (wr := wr) ?_ (HR5.out.kept ?_) (HSR.out.kept ?_)).mono ?_; (first | exact ⟨rfl, rfl, rfl, Nat.le_refl _, fun _ _ => rfl⟩ | exact hbe | exact ⟨hbe.os, hbe.tape, hbe.output, hbe.size, hbe.block⟩); exact ⟨rfl, rfl, rfl, Nat.le_refl _, fun _ _ => rfl⟩; (first | exact ⟨rfl, rfl, rfl, Nat.le_refl _, fun _ _ => rfl⟩ | exact hbe | exact ⟨hbe.os, hbe.tape, hbe.output, hbe.size, hbe.block⟩); rintro e wa ⟨rfl, hbe⟩))
      have HBE := Lib.hid hbe
      go_wp2
      go_roundw
      case rel => exact ⟨k + 1, by omega, by go_num, HBR.out.trans (HBE.out.mono HBR.out.size)⟩
      case measure => simp [intOf]; omega
    · obtain rfl : k = n := by omega
      have HBW := Lib.hid (HB3.out.trans (hbr.mono HB3.out.size))
      clear hbr HBR HX HR3 HR23 HS3 HB3 hln HLN
      go_wp2_with fail
      refine (drawFOf_ok _ A len cap hl (HC.out.below HBW.out)).mono ?_
      rintro e w4 ⟨z, hz, rfl, hb4⟩
      have HB4 := Lib.hid (HBW.out.trans (hb4.mono HBW.out.size))
      clear hb4 HBW hz
      go_wp2_with fail
      refine (implFOf_any z w4).mono ?_
      rintro e w5 ⟨u5, rfl, hr5, hb5⟩
      obtain ⟨A5, c5, rfl⟩ := hr5.form
      have HR5 := Lib.hid hr5.weak
      have HB5 := Lib.hid (HB4.out.trans (hb5.mono HB4.out.size))
      clear hr5 hb5 HB4
      go_wp2_with fail
      refine (specFOf_any z w5).mono ?_
      rintro e w6 ⟨u6, rfl, hr6, hb6⟩
      obtain ⟨A6, c6, rfl⟩ := hr6.form
      have HR6 := Lib.hid hr6.weak
      have HR56 := Lib.hid (HR5.out.kept hb6)
      have HB6 := Lib.hid (HB5.out.trans (hb6.mono HB5.out.size))
      clear hr6 hb6 HB5 HR5
      have HX2 : Hid (∀ k, k < (footAll z).length → ∃ x, (footAll z)[k]? = some x) := fun k hk => ⟨_, List.getElem?_eq_getElem hk⟩
      have HLN2 : Hid ((footAll z).length ≤ 1000000) := Nat.le_trans (footAll_len _) (by omega)
      generalize footAll z = R2 at *
      generalize hn2 : R2.length = n2 at *
      have hln2 := HLN2.out
      clear hn2
      go_wp2
      go_loopw [10] (fun i wr => ∃ (j : Nat), j ≤ n2 ∧ i = .int .i64 j ∧ Below w6.heap.size w6 wr) (fun i _ => n2 - (intOf i).toNat)
      case atStart => exact ⟨0, by omega, rfl, Below.refl _ _⟩
      case round =>
        obtain ⟨j, hj, rfl, hbr⟩ := hrel
        have HBR := Lib.hid hbr
        by_cases hjl : j < n2
        · obtain ⟨x, hx⟩ := HX2.out j hjl
          obtain ⟨gl, ol, Al, cl, rfl, hql, i0, i2, l0, l1, l2⟩ := ft_at (HR56.out.kept hbr) hx
          obtain ⟨gm, om, Am, cm, rfl, hqm, _, _, m0, m1, m2⟩ := ft_at (HR6.out.kept hbr) hx
          have HEQ : Hid (∀ W, Below wr.heap.size wr W → Calls Tryd.prog 9 #[.agg #[.int .i64 x.Syllables, .slice Al x.Feet.length cl, .int .i64 x.Main], .agg #[.int .i64 x.Syllables, .slice Am x.Feet.length cm, .int .i64 x.Main]] W fun e w' => e = .returned (.bool true) ∧ Below wr.heap.size wr w') := fun W hW => by
            have h := specEqF_any x x _ _ _ _ W (hql.kept hW) (hqm.kept hW)
            rw [feq_self] at h
            exact from_here hW h
          have HKEEP : Hid (∀ W, Below wr.heap.size wr W → W.cell? ⟨gl, ol + j * 3, none⟩ = some (.int .i64 x.Syllables) ∧ W.cell? ⟨gl, ol + j * 3 + 1, none⟩ = some (.slice Al x.Feet.length cl) ∧ W.cell? ⟨gl, ol + j * 3 + 2, none⟩ = some (.int .i64 x.Main) ∧ W.cell? ⟨gm, om + j * 3, none⟩ = some (.int .i64 x.Syllables) ∧ W.cell? ⟨gm, om + j * 3 + 1, none⟩ = some (.slice Am x.Feet.length cm) ∧ W.cell? ⟨gm, om + j * 3 + 2, none⟩ = some (.int .i64 x.Main)) := fun W hW =>
            ⟨(hW.cell (block_lt_of_cell l0)).trans l0, (hW.cell (block_lt_of_cell l1)).trans l1, (hW.cell (block_lt_of_cell l2)).trans l2, (hW.cell (block_lt_of_cell m0)).trans m0, (hW.cell (block_lt_of_cell m1)).trans m1, (hW.cell (block_lt_of_cell m2)).trans m2⟩
          have hki : (j : Int) < (n2 : Int) := by omega
          clear hql hqm i0 i2 hx hbr
          generalize x.Syllables = fS at *
          generalize x.Main = fM at *
          generalize x.Feet = l at *
          go_wp2_with fail
          go_region_held3 (fun w' => w'.cell? ⟨gl, ol + j * 3, none⟩ = some (.int .i64 fS) ∧ w'.cell? ⟨gl, ol + j * 3 + 1, none⟩ = some (.slice Al l.length cl) ∧ w'.cell? ⟨gl, ol + j * 3 + 2, none⟩ = some (.int .i64 fM) ∧ w'.cell? ⟨gm, om + j * 3, none⟩ = some (.int .i64 fS) ∧ w'.cell? ⟨gm, om + j * 3 + 1, none⟩ = some (.slice Am l.length cm) ∧ w'.cell? ⟨gm, om + j * 3 + 2, none⟩ = some (.int .i64 fM))
            (first | with_reducible exact HKEEP.out _ hbe | go_keep)
            (first
              | (go_at_call 9; refine (HEQ.out _ ?_).mono ?_; (first | exact ⟨rfl, rfl, rfl, Nat.le_refl _, fun _ _ => rfl⟩ | exact hbe | exact ⟨hbe.os, hbe.tape, hbe.output, hbe.size, hbe.block⟩); rintro e wa ⟨rfl, hbe⟩))
          have HBE := Lib.hid hbe
          go_wp2
          go_roundw
          case rel => exact ⟨j + 1, by omega, by go_num, HBR.out.trans (HBE.out.mono HBR.out.size)⟩
          case measure => simp [intOf]; omega
        · obtain rfl : j = n2 := by omega
          have HBW := Lib.hid (HB6.out.trans (hbr.mono HB6.out.size))
          clear hbr HBR HX2 HR6 HR56 HB6 hln2 HLN2
          go_wp2_with fail
          refine (drawMk_ok _ A len cap hl (HC.out.below HBW.out)).mono ?_
          rintro e w7 ⟨f, uf, rfl, hqf, hf4, i0, i2, hb7⟩
          obtain ⟨Af, cf, rfl⟩ := hqf.form
          have hba : Below w7.heap.size w7 (w7.alloc (.cells #[.int .i64 f.Syllables, .slice Af f.Feet.length cf, .int .i64 f.Main] 31)) := (Below.refl _ _).alloc (Nat.le_refl _) _
          have HBX : Hid (InC (w7.alloc (.cells #[.int .i64 f.Syllables, .slice Af f.Feet.length cf, .int .i64 f.Main] 31)) w7.heap.size #[.int .i64 f.Syllables, .slice Af f.Feet.length cf, .int .i64 f.Main] 31) := heap_alloc_new _ _
          have HB7 := Lib.hid (HBW.out.trans ((hb7.trans (hba.mono hb7.size)).mono HBW.out.size))
          have HQF := Lib.hid (hqf.weak.kept hba)
          have HI0 := Lib.hid i0
          have HI2 := Lib.hid i2
          clear hqf hb7 hba HBW i0 i2
          go_wp2_with fail
          refine (implFM_any f _ _ _ (by omega) HI0.out HI2.out HQF.out).mono ?_
          rintro e w8 ⟨u8, rfl, hr8, hb8⟩
          obtain ⟨A8, c8, rfl⟩ := hr8.form
          have HR8 := Lib.hid hr8.weak
          have HBX8 := Lib.hid (HBX.out.kept hb8)
          have HQF8 := Lib.hid (HQF.out.kept hb8)
          have HB8 := Lib.hid (HB7.out.trans (hb8.mono HB7.out.size))
          clear hr8 hb8 HBX HQF HB7
          go_wp2_with fail
          refine (drawEq_ok _ A len cap hl (HC.out.below HB8.out)).mono ?_
          rintro e w9 ⟨x, y, ux, uy, rfl, hqx, hqy, hx4, hy4, hb9⟩
          obtain ⟨Ax, cx, rfl⟩ := hqx.form
          obtain ⟨Ay, cy, rfl⟩ := hqy.form
          have hz9 : Below w9.heap.size w9 ((w9.alloc (.cells #[.int .i64 x.Syllables, .slice Ax x.Feet.length cx, .int .i64 x.Main] 31)).alloc (.cells #[.int .i64 y.Syllables, .slice Ay y.Feet.length cy, .int .i64 y.Main] 31)) := ((Below.refl _ _).alloc (Nat.le_refl _) _).alloc (by simp) _
          have hx1 : InC ((w9.alloc (.cells #[.int .i64 x.Syllables, .slice Ax x.Feet.length cx, .int .i64 x.Main] 31)).alloc (.cells #[.int .i64 y.Syllables, .slice Ay y.Feet.length cy, .int .i64 y.Main] 31)) w9.heap.size #[.int .i64 x.Syllables, .slice Ax x.Feet.length cx, .int .i64 x.Main] 31 := box1 _ _ _
          have hy1 : InC ((w9.alloc (.cells #[.int .i64 x.Syllables, .slice Ax x.Feet.length cx, .int .i64 x.Main] 31)).alloc (.cells #[.int .i64 y.Syllables, .slice Ay y.Feet.length cy, .int .i64 y.Main] 31)) (w9.heap.size + 1) #[.int .i64 y.Syllables, .slice Ay y.Feet.length cy, .int .i64 y.Main] 31 := box2 _ _ _
          have HBX9 := Lib.hid ((HBX8.out.kept hb9).kept hz9)
          have HR9 := Lib.hid ((HR8.out.kept hb9).kept hz9)
          have HQF9 := Lib.hid ((HQF8.out.kept hb9).kept hz9)
          have HQX := Lib.hid (hqx.kept hz9)
          have HQY := Lib.hid (hqy.kept hz9)
          have HX1 := Lib.hid hx1
          have HY1 := Lib.hid hy1
          have HB9 := Lib.hid (HB8.out.trans ((hb9.trans (hz9.mono hb9.size)).mono HB8.out.size))
          clear hqx hqy hb9 hz9 hx1 hy1 HBX8 HR8 HQF8 HB8
          go_wp2_with fail
          generalize hwz : (w9.alloc _).alloc _ = wz at *
          clear hwz
          by_cases hft : isFt f = true
          · have hK : (fmL f).length = 6 := by unfold fmL; rw [if_pos hft]; rfl
            have hsum := fmTo_sum hft f.Feet.length
            have hok := fmTo_ok hft f.Feet.length
            have hel : fmL f = fmList (fmTo f f.Feet.length) (fmE f) (fmG f) := if_pos hft
            have kc : ∀ (j : Nat) (q : Int), (fmL f)[j]? = some q → ∃ g o, A8 = some ⟨g, o, none⟩ ∧ wz.cell? ⟨g, o + j, none⟩ = some (.int .i64 q) := fun j q hj => by
              obtain ⟨g, o, xs, Fk, hA, _, hrd, _, hc⟩ := HR9.out.get hj
              obtain ⟨rfl, _⟩ := id hrd
              have h := hc 0 _ rfl
              rw [show Rep.int.size = 1 from rfl, Nat.mul_one, Nat.add_zero] at h
              exact ⟨g, o, hA, h⟩
            obtain ⟨g8, o8, rfl, k0⟩ := kc 0 (fmTo f f.Feet.length).a (by rw [hel]; rfl)
            obtain ⟨_, _, hA, k1⟩ := kc 1 (fmTo f f.Feet.length).b (by rw [hel]; rfl)
            cases hA
            obtain ⟨_, _, hA, k2⟩ := kc 2 (fmTo f f.Feet.length).c (by rw [hel]; rfl)
            cases hA
            obtain ⟨_, _, hA, k3⟩ := kc 3 (fmTo f f.Feet.length).d (by rw [hel]; rfl)
            cases hA
            simp only [Nat.add_zero] at k0
            unfold FMok at hok
            clear hel kc
            generalize (fmTo f f.Feet.length).a = ma at *
            generalize (fmTo f f.Feet.length).b = mb at *
            generalize (fmTo f f.Feet.length).c = mc at *
            generalize (fmTo f f.Feet.length).d = md at *
            have hw1 : IntKind.i64.wrap (ma + mb) = ma + mb := IntWalk.i64_in _ (by omega)
            have hw2 : IntKind.i64.wrap (2 * mc) = 2 * mc := IntWalk.i64_in _ (by omega)
            have hw3 : IntKind.i64.wrap (ma + mb + 2 * mc) = ma + mb + 2 * mc := IntWalk.i64_in _ (by omega)
            have hw4 : IntKind.i64.wrap (2 * md) = 2 * md := IntWalk.i64_in _ (by omega)
            have hw5 : IntKind.i64.wrap (ma + mb + 2 * mc + 2 * md) = f.Syllables := by rw [hsum]; exact IntWalk.i64_in _ HI0.out
            clear hsum
            have HSF : Hid (∀ W, Below wz.heap.size wz W → Calls Tryd.prog 19 #[.agg #[.int .i64 f.Syllables, .slice Af f.Feet.length cf, .int .i64 f.Main]] W fun e w' => ∃ (A : Option Addr) (c : Nat), e = .returned (.slice A 6 c) ∧ RowRd Rep.int false w' (.slice A 6 c) (fmL f) (fun _ => True) ∧ Below wz.heap.size wz w') := fun W hW => by
              have h := own_here hW (specFM_any f _ _ W (by omega) HI0.out HI2.out (HQF9.out.kept hW))
              rw [hK] at h
              exact h
            have HR9' : Hid (RowRd Rep.int false wz (.slice (some ⟨g8, o8, none⟩) 6 c8) (fmL f) (fun _ => True)) := by have h := HR9.out.mono (G := fun _ => True) (fun _ _ => trivial); rw [hK] at h; exact h
            have HIFF : Hid (∀ W, Below wz.heap.size wz W → Calls Tryd.prog 20 #[.agg #[.int .i64 f.Syllables, .slice Af f.Feet.length cf, .int .i64 f.Main]] W fun e w' => e = .returned (.string (bsF (ftL f))) ∧ Below wz.heap.size wz w') := fun W hW => by
              have h := implFF_any f _ _ W (by omega) HI0.out HI2.out (HQF9.out.kept hW)
              exact from_here hW h
            have HSFF : Hid (∀ W, Below wz.heap.size wz W → Calls Tryd.prog 21 #[.agg #[.int .i64 f.Syllables, .slice Af f.Feet.length cf, .int .i64 f.Main]] W fun e w' => e = .returned (.string (bsF (ftL f))) ∧ Below wz.heap.size wz w') := fun W hW => by
              have h := specFF_any f _ _ W (by omega) HI0.out HI2.out (HQF9.out.kept hW)
              exact from_here hW h
            have HIIS : Hid (∀ W, Below wz.heap.size wz W → Calls Tryd.prog 10 #[.agg #[.int .i64 f.Syllables, .slice Af f.Feet.length cf, .int .i64 f.Main]] W fun e w' => e = .returned (.bool true) ∧ Below wz.heap.size wz w') := fun W hW => by
              have h := implIsF_any f _ _ W (by omega) HI0.out HI2.out (HQF9.out.kept hW)
              rw [hft] at h
              exact from_here hW h
            have HSIS : Hid (∀ W, Below wz.heap.size wz W → Calls Tryd.prog 22 #[.agg #[.int .i64 f.Syllables, .slice Af f.Feet.length cf, .int .i64 f.Main]] W fun e w' => e = .returned (.bool true) ∧ Below wz.heap.size wz w') := fun W hW => by
              have h := specIsF_any f _ _ W (by omega) HI0.out HI2.out (HQF9.out.kept hW)
              rw [hft] at h
              exact from_here hW h
            have HIST : Hid (∀ W, Below wz.heap.size wz W → Calls Tryd.prog 12 #[.agg #[.int .i64 f.Syllables, .slice Af f.Feet.length cf, .int .i64 f.Main]] W fun e w' => ∃ (A : Option Addr) (c : Nat), e = .returned (.slice A (strL f).length c) ∧ RowRd Rep.int false w' (.slice A (strL f).length c) (strL f) (fun _ => True) ∧ Below wz.heap.size wz w') := fun W hW => own_here hW (implStr_any f _ _ W (by omega) HI0.out HI2.out (HQF9.out.kept hW))
            have HSST : Hid (∀ W, Below wz.heap.size wz W → Calls Tryd.prog 23 #[.agg #[.int .i64 f.Syllables, .slice Af f.Feet.length cf, .int .i64 f.Main]] W fun e w' => ∃ (A : Option Addr) (c : Nat), e = .returned (.slice A (strL f).length c) ∧ RowRd Rep.int false w' (.slice A (strL f).length c) (strL f) (fun _ => True) ∧ Below wz.heap.size wz w') := fun W hW => own_here hW (specStr_any f _ _ W (by omega) HI0.out HI2.out (HQF9.out.kept hW))
            have HSSR : Hid (∀ (W0 : World) (u : Value) (W : World), RowRd Rep.int false W0 u (strL f) (fun _ => True) → Below wz.heap.size wz W0 → Below W0.heap.size W0 W → Calls Tryd.prog 23 #[.agg #[.int .i64 f.Syllables, .slice Af f.Feet.length cf, .int .i64 f.Main]] W fun e w' => ∃ (A : Option Addr) (c : Nat), e = .returned (.slice A (strL f).length c) ∧ RowRd Rep.int false w' u (strL f) (fun _ => True) ∧ RowRd Rep.int false w' (.slice A (strL f).length c) (strL f) (fun _ => True) ∧ Below wz.heap.size wz w') := fun W0 u W hr h0 hW => by
              refine (own_here (Below.refl _ _) (specStr_any f _ _ W (by omega) HI0.out HI2.out (HQF9.out.kept (h0.trans (hW.mono h0.size))))).mono ?_
              rintro e w' ⟨A, c, h1, h2, h3⟩
              exact ⟨A, c, h1, (hr.kept hW).kept h3, h2, (h0.trans (hW.mono h0.size)).trans (h3.mono (Nat.le_trans h0.size hW.size))⟩
            have HIEQ : Hid (∀ W, Below wz.heap.size wz W → Calls Tryd.prog 24 #[.agg #[.int .i64 x.Syllables, .slice Ax x.Feet.length cx, .int .i64 x.Main], .agg #[.int .i64 y.Syllables, .slice Ay y.Feet.length cy, .int .i64 y.Main]] W fun e w' => e = .returned (.bool (feq x y)) ∧ Below wz.heap.size wz w') := fun W hW => from_here hW (implEqF_any x y _ _ _ _ W (HQX.out.kept hW) (HQY.out.kept hW))
            have HSEQ : Hid (∀ W, Below wz.heap.size wz W → Calls Tryd.prog 9 #[.agg #[.int .i64 x.Syllables, .slice Ax x.Feet.length cx, .int .i64 x.Main], .agg #[.int .i64 y.Syllables, .slice Ay y.Feet.length cy, .int .i64 y.Main]] W fun e w' => e = .returned (.bool (feq x y)) ∧ Below wz.heap.size wz w') := fun W hW => from_here hW (specEqF_any x y _ _ _ _ W (HQX.out.kept hW) (HQY.out.kept hW))
            have q0 : wz.cell? ⟨w7.heap.size, 0, none⟩ = some (.int .i64 f.Syllables) := HBX9.out.cell 0 rfl
            have q1 : wz.cell? ⟨w7.heap.size, 1, none⟩ = some (.slice Af f.Feet.length cf) := HBX9.out.cell 1 rfl
            have q2 : wz.cell? ⟨w7.heap.size, 2, none⟩ = some (.int .i64 f.Main) := HBX9.out.cell 2 rfl
            have q3 : wz.cell? ⟨w9.heap.size, 0, none⟩ = some (.int .i64 x.Syllables) := HX1.out.cell 0 rfl
            have q4 : wz.cell? ⟨w9.heap.size, 1, none⟩ = some (.slice Ax x.Feet.length cx) := HX1.out.cell 1 rfl
            have q5 : wz.cell? ⟨w9.heap.size, 2, none⟩ = some (.int .i64 x.Main) := HX1.out.cell 2 rfl
            have q6 : wz.cell? ⟨(w9.heap.size + 1), 0, none⟩ = some (.int .i64 y.Syllables) := HY1.out.cell 0 rfl
            have q7 : wz.cell? ⟨(w9.heap.size + 1), 1, none⟩ = some (.slice Ay y.Feet.length cy) := HY1.out.cell 1 rfl
            have q8 : wz.cell? ⟨(w9.heap.size + 1), 2, none⟩ = some (.int .i64 y.Main) := HY1.out.cell 2 rfl
            have q9 : wz.cell? ⟨g8, o8, none⟩ = some (.int .i64 ma) := k0
            have q10 : wz.cell? ⟨g8, o8 + 1, none⟩ = some (.int .i64 mb) := k1
            have q11 : wz.cell? ⟨g8, o8 + 2, none⟩ = some (.int .i64 mc) := k2
            have q12 : wz.cell? ⟨g8, o8 + 3, none⟩ = some (.int .i64 md) := k3
            have HKEEP : Hid (∀ W, Below wz.heap.size wz W → W.cell? ⟨w7.heap.size, 0, none⟩ = some (.int .i64 f.Syllables) ∧ W.cell? ⟨w7.heap.size, 1, none⟩ = some (.slice Af f.Feet.length cf) ∧ W.cell? ⟨w7.heap.size, 2, none⟩ = some (.int .i64 f.Main) ∧ W.cell? ⟨w9.heap.size, 0, none⟩ = some (.int .i64 x.Syllables) ∧ W.cell? ⟨w9.heap.size, 1, none⟩ = some (.slice Ax x.Feet.length cx) ∧ W.cell? ⟨w9.heap.size, 2, none⟩ = some (.int .i64 x.Main) ∧ W.cell? ⟨(w9.heap.size + 1), 0, none⟩ = some (.int .i64 y.Syllables) ∧ W.cell? ⟨(w9.heap.size + 1), 1, none⟩ = some (.slice Ay y.Feet.length cy) ∧ W.cell? ⟨(w9.heap.size + 1), 2, none⟩ = some (.int .i64 y.Main) ∧ W.cell? ⟨g8, o8, none⟩ = some (.int .i64 ma) ∧ W.cell? ⟨g8, o8 + 1, none⟩ = some (.int .i64 mb) ∧ W.cell? ⟨g8, o8 + 2, none⟩ = some (.int .i64 mc) ∧ W.cell? ⟨g8, o8 + 3, none⟩ = some (.int .i64 md)) := fun W hW => ⟨(hW.cell (block_lt_of_cell q0)).trans q0, (hW.cell (block_lt_of_cell q1)).trans q1, (hW.cell (block_lt_of_cell q2)).trans q2, (hW.cell (block_lt_of_cell q3)).trans q3, (hW.cell (block_lt_of_cell q4)).trans q4, (hW.cell (block_lt_of_cell q5)).trans q5, (hW.cell (block_lt_of_cell q6)).trans q6, (hW.cell (block_lt_of_cell q7)).trans q7, (hW.cell (block_lt_of_cell q8)).trans q8, (hW.cell (block_lt_of_cell q9)).trans q9, (hW.cell (block_lt_of_cell q10)).trans q10, (hW.cell (block_lt_of_cell q11)).trans q11, (hW.cell (block_lt_of_cell q12)).trans q12⟩
            rw [hK]
            clear HBX9 HX1 HY1 HR9 HQF9 HQX HQY HI2 q0 q1 q2 q3 q4 q5 q6 q7 q8 q9 q10 q11 q12 k0 k1 k2 k3 hok
            generalize f.Main = fM at *
            generalize f.Feet.length = fl at *
            generalize bsF (ftL f) = ft at *
            generalize feq x y = fe at *
            generalize strL f = st at *
            generalize fmL f = fk at *
            generalize f.Syllables = fS at *
            have hbe := (Below.refl wz.heap.size wz).drew
            go_region_held3 (fun w' => w'.cell? ⟨w7.heap.size, 0, none⟩ = some (.int .i64 fS) ∧ w'.cell? ⟨w7.heap.size, 1, none⟩ = some (.slice Af fl cf) ∧ w'.cell? ⟨w7.heap.size, 2, none⟩ = some (.int .i64 fM) ∧ w'.cell? ⟨w9.heap.size, 0, none⟩ = some (.int .i64 x.Syllables) ∧ w'.cell? ⟨w9.heap.size, 1, none⟩ = some (.slice Ax x.Feet.length cx) ∧ w'.cell? ⟨w9.heap.size, 2, none⟩ = some (.int .i64 x.Main) ∧ w'.cell? ⟨(w9.heap.size + 1), 0, none⟩ = some (.int .i64 y.Syllables) ∧ w'.cell? ⟨(w9.heap.size + 1), 1, none⟩ = some (.slice Ay y.Feet.length cy) ∧ w'.cell? ⟨(w9.heap.size + 1), 2, none⟩ = some (.int .i64 y.Main) ∧ w'.cell? ⟨g8, o8, none⟩ = some (.int .i64 ma) ∧ w'.cell? ⟨g8, o8 + 1, none⟩ = some (.int .i64 mb) ∧ w'.cell? ⟨g8, o8 + 2, none⟩ = some (.int .i64 mc) ∧ w'.cell? ⟨g8, o8 + 3, none⟩ = some (.int .i64 md))
              (first | with_reducible exact HKEEP.out _ hbe | go_keep)
              (first
                | (go_at_call 19; refine (HSF.out _ ?_).mono ?_; (first | exact ⟨rfl, rfl, rfl, Nat.le_refl _, fun _ _ => rfl⟩ | exact hbe | exact ⟨hbe.os, hbe.tape, hbe.output, hbe.size, hbe.block⟩); rintro e wa ⟨A5, c5, rfl, hr5, hbe⟩; have HRA := Lib.hid hr5)
                | (go_at_call 11; refine (same_here (wr := wz) ?_ (HRB2.out.kept ?_) (HRC.out.kept ?_)).mono ?_; (first | exact ⟨rfl, rfl, rfl, Nat.le_refl _, fun _ _ => rfl⟩ | exact hbe | exact ⟨hbe.os, hbe.tape, hbe.output, hbe.size, hbe.block⟩); exact ⟨rfl, rfl, rfl, Nat.le_refl _, fun _ _ => rfl⟩; exact ⟨rfl, rfl, rfl, Nat.le_refl _, fun _ _ => rfl⟩; rintro e wa ⟨rfl, hbe⟩)
                | (go_at_call 11; refine (same_here (wr := wz) ?_ (HR9'.out.kept ?_) (HRA.out.kept ?_)).mono ?_; (first | exact ⟨rfl, rfl, rfl, Nat.le_refl _, fun _ _ => rfl⟩ | exact hbe | exact ⟨hbe.os, hbe.tape, hbe.output, hbe.size, hbe.block⟩); (first | exact ⟨rfl, rfl, rfl, Nat.le_refl _, fun _ _ => rfl⟩ | exact hbe | exact ⟨hbe.os, hbe.tape, hbe.output, hbe.size, hbe.block⟩); exact ⟨rfl, rfl, rfl, Nat.le_refl _, fun _ _ => rfl⟩; rintro e wa ⟨rfl, hbe⟩)
                | (go_at_call 20; refine (HIFF.out _ ?_).mono ?_; (first | exact ⟨rfl, rfl, rfl, Nat.le_refl _, fun _ _ => rfl⟩ | exact hbe | exact ⟨hbe.os, hbe.tape, hbe.output, hbe.size, hbe.block⟩); rintro e wa ⟨rfl, hbe⟩)
                | (go_at_call 21; refine (HSFF.out _ ?_).mono ?_; (first | exact ⟨rfl, rfl, rfl, Nat.le_refl _, fun _ _ => rfl⟩ | exact hbe | exact ⟨hbe.os, hbe.tape, hbe.output, hbe.size, hbe.block⟩); rintro e wa ⟨rfl, hbe⟩)
                | (go_at_call 10; refine (HIIS.out _ ?_).mono ?_; (first | exact ⟨rfl, rfl, rfl, Nat.le_refl _, fun _ _ => rfl⟩ | exact hbe | exact ⟨hbe.os, hbe.tape, hbe.output, hbe.size, hbe.block⟩); rintro e wa ⟨rfl, hbe⟩)
                | (go_at_call 22; refine (HSIS.out _ ?_).mono ?_; (first | exact ⟨rfl, rfl, rfl, Nat.le_refl _, fun _ _ => rfl⟩ | exact hbe | exact ⟨hbe.os, hbe.tape, hbe.output, hbe.size, hbe.block⟩); rintro e wa ⟨rfl, hbe⟩)
                | (go_at_call 12; refine (HIST.out _ ?_).mono ?_; (first | exact ⟨rfl, rfl, rfl, Nat.le_refl _, fun _ _ => rfl⟩ | exact hbe | exact ⟨hbe.os, hbe.tape, hbe.output, hbe.size, hbe.block⟩); rintro e wa ⟨A5, c5, rfl, hr5, hbe⟩; have HRB := Lib.hid hr5; have HBB := Lib.hid hbe)
                | (go_at_call 23; refine (HSSR.out _ _ _ HRB.out HBB.out ?_).mono ?_; (first | exact ⟨rfl, rfl, rfl, Nat.le_refl _, fun _ _ => rfl⟩ | exact hbe | exact ⟨hbe.os, hbe.tape, hbe.output, hbe.size, hbe.block⟩); rintro e wa ⟨A6, c6, rfl, hr6, hr7, hbe⟩; have HRB2 := Lib.hid hr6; have HRC := Lib.hid hr7)
                | (go_at_call 24; refine (HIEQ.out _ ?_).mono ?_; (first | exact ⟨rfl, rfl, rfl, Nat.le_refl _, fun _ _ => rfl⟩ | exact hbe | exact ⟨hbe.os, hbe.tape, hbe.output, hbe.size, hbe.block⟩); rintro e wa ⟨rfl, hbe⟩)
                | (go_at_call 9; refine (HSEQ.out _ ?_).mono ?_; (first | exact ⟨rfl, rfl, rfl, Nat.le_refl _, fun _ _ => rfl⟩ | exact hbe | exact ⟨hbe.os, hbe.tape, hbe.output, hbe.size, hbe.block⟩); rintro e wa ⟨rfl, hbe⟩))
            all_goals
              have HBE := Lib.hid hbe
              go_wp2
              go_ret
              exact ⟨rfl, HB9.out.trans (HBE.out.mono HB9.out.size)⟩
          · have hft : isFt f = false := by simpa using hft
            have hz0 : ((0 : Nat) : Int) = 0 := rfl
            have hK : (fmL f).length = 0 := by unfold fmL; rw [if_neg (by simp [hft])]; rfl
            have HSF : Hid (∀ W, Below wz.heap.size wz W → Calls Tryd.prog 19 #[.agg #[.int .i64 f.Syllables, .slice Af f.Feet.length cf, .int .i64 f.Main]] W fun e w' => ∃ (A : Option Addr) (c : Nat), e = .returned (.slice A 0 c) ∧ RowRd Rep.int false w' (.slice A 0 c) (fmL f) (fun _ => True) ∧ Below wz.heap.size wz w') := fun W hW => by
              have h := own_here hW (specFM_any f _ _ W (by omega) HI0.out HI2.out (HQF9.out.kept hW))
              rw [hK] at h
              exact h
            have HR9' : Hid (RowRd Rep.int false wz (.slice A8 0 c8) (fmL f) (fun _ => True)) := by have h := HR9.out.mono (G := fun _ => True) (fun _ _ => trivial); rw [hK] at h; exact h
            have HIFF : Hid (∀ W, Below wz.heap.size wz W → Calls Tryd.prog 20 #[.agg #[.int .i64 f.Syllables, .slice Af f.Feet.length cf, .int .i64 f.Main]] W fun e w' => e = .returned (.string (bsF (ftL f))) ∧ Below wz.heap.size wz w') := fun W hW => by
              have h := implFF_any f _ _ W (by omega) HI0.out HI2.out (HQF9.out.kept hW)
              exact from_here hW h
            have HSFF : Hid (∀ W, Below wz.heap.size wz W → Calls Tryd.prog 21 #[.agg #[.int .i64 f.Syllables, .slice Af f.Feet.length cf, .int .i64 f.Main]] W fun e w' => e = .returned (.string (bsF (ftL f))) ∧ Below wz.heap.size wz w') := fun W hW => by
              have h := specFF_any f _ _ W (by omega) HI0.out HI2.out (HQF9.out.kept hW)
              exact from_here hW h
            have HIIS : Hid (∀ W, Below wz.heap.size wz W → Calls Tryd.prog 10 #[.agg #[.int .i64 f.Syllables, .slice Af f.Feet.length cf, .int .i64 f.Main]] W fun e w' => e = .returned (.bool false) ∧ Below wz.heap.size wz w') := fun W hW => by
              have h := implIsF_any f _ _ W (by omega) HI0.out HI2.out (HQF9.out.kept hW)
              rw [hft] at h
              exact from_here hW h
            have HSIS : Hid (∀ W, Below wz.heap.size wz W → Calls Tryd.prog 22 #[.agg #[.int .i64 f.Syllables, .slice Af f.Feet.length cf, .int .i64 f.Main]] W fun e w' => e = .returned (.bool false) ∧ Below wz.heap.size wz w') := fun W hW => by
              have h := specIsF_any f _ _ W (by omega) HI0.out HI2.out (HQF9.out.kept hW)
              rw [hft] at h
              exact from_here hW h
            have HIST : Hid (∀ W, Below wz.heap.size wz W → Calls Tryd.prog 12 #[.agg #[.int .i64 f.Syllables, .slice Af f.Feet.length cf, .int .i64 f.Main]] W fun e w' => ∃ (A : Option Addr) (c : Nat), e = .returned (.slice A (strL f).length c) ∧ RowRd Rep.int false w' (.slice A (strL f).length c) (strL f) (fun _ => True) ∧ Below wz.heap.size wz w') := fun W hW => own_here hW (implStr_any f _ _ W (by omega) HI0.out HI2.out (HQF9.out.kept hW))
            have HSST : Hid (∀ W, Below wz.heap.size wz W → Calls Tryd.prog 23 #[.agg #[.int .i64 f.Syllables, .slice Af f.Feet.length cf, .int .i64 f.Main]] W fun e w' => ∃ (A : Option Addr) (c : Nat), e = .returned (.slice A (strL f).length c) ∧ RowRd Rep.int false w' (.slice A (strL f).length c) (strL f) (fun _ => True) ∧ Below wz.heap.size wz w') := fun W hW => own_here hW (specStr_any f _ _ W (by omega) HI0.out HI2.out (HQF9.out.kept hW))
            have HSSR : Hid (∀ (W0 : World) (u : Value) (W : World), RowRd Rep.int false W0 u (strL f) (fun _ => True) → Below wz.heap.size wz W0 → Below W0.heap.size W0 W → Calls Tryd.prog 23 #[.agg #[.int .i64 f.Syllables, .slice Af f.Feet.length cf, .int .i64 f.Main]] W fun e w' => ∃ (A : Option Addr) (c : Nat), e = .returned (.slice A (strL f).length c) ∧ RowRd Rep.int false w' u (strL f) (fun _ => True) ∧ RowRd Rep.int false w' (.slice A (strL f).length c) (strL f) (fun _ => True) ∧ Below wz.heap.size wz w') := fun W0 u W hr h0 hW => by
              refine (own_here (Below.refl _ _) (specStr_any f _ _ W (by omega) HI0.out HI2.out (HQF9.out.kept (h0.trans (hW.mono h0.size))))).mono ?_
              rintro e w' ⟨A, c, h1, h2, h3⟩
              exact ⟨A, c, h1, (hr.kept hW).kept h3, h2, (h0.trans (hW.mono h0.size)).trans (h3.mono (Nat.le_trans h0.size hW.size))⟩
            have HIEQ : Hid (∀ W, Below wz.heap.size wz W → Calls Tryd.prog 24 #[.agg #[.int .i64 x.Syllables, .slice Ax x.Feet.length cx, .int .i64 x.Main], .agg #[.int .i64 y.Syllables, .slice Ay y.Feet.length cy, .int .i64 y.Main]] W fun e w' => e = .returned (.bool (feq x y)) ∧ Below wz.heap.size wz w') := fun W hW => from_here hW (implEqF_any x y _ _ _ _ W (HQX.out.kept hW) (HQY.out.kept hW))
            have HSEQ : Hid (∀ W, Below wz.heap.size wz W → Calls Tryd.prog 9 #[.agg #[.int .i64 x.Syllables, .slice Ax x.Feet.length cx, .int .i64 x.Main], .agg #[.int .i64 y.Syllables, .slice Ay y.Feet.length cy, .int .i64 y.Main]] W fun e w' => e = .returned (.bool (feq x y)) ∧ Below wz.heap.size wz w') := fun W hW => from_here hW (specEqF_any x y _ _ _ _ W (HQX.out.kept hW) (HQY.out.kept hW))
            have q0 : wz.cell? ⟨w7.heap.size, 0, none⟩ = some (.int .i64 f.Syllables) := HBX9.out.cell 0 rfl
            have q1 : wz.cell? ⟨w7.heap.size, 1, none⟩ = some (.slice Af f.Feet.length cf) := HBX9.out.cell 1 rfl
            have q2 : wz.cell? ⟨w7.heap.size, 2, none⟩ = some (.int .i64 f.Main) := HBX9.out.cell 2 rfl
            have q3 : wz.cell? ⟨w9.heap.size, 0, none⟩ = some (.int .i64 x.Syllables) := HX1.out.cell 0 rfl
            have q4 : wz.cell? ⟨w9.heap.size, 1, none⟩ = some (.slice Ax x.Feet.length cx) := HX1.out.cell 1 rfl
            have q5 : wz.cell? ⟨w9.heap.size, 2, none⟩ = some (.int .i64 x.Main) := HX1.out.cell 2 rfl
            have q6 : wz.cell? ⟨(w9.heap.size + 1), 0, none⟩ = some (.int .i64 y.Syllables) := HY1.out.cell 0 rfl
            have q7 : wz.cell? ⟨(w9.heap.size + 1), 1, none⟩ = some (.slice Ay y.Feet.length cy) := HY1.out.cell 1 rfl
            have q8 : wz.cell? ⟨(w9.heap.size + 1), 2, none⟩ = some (.int .i64 y.Main) := HY1.out.cell 2 rfl
            have HKEEP : Hid (∀ W, Below wz.heap.size wz W → W.cell? ⟨w7.heap.size, 0, none⟩ = some (.int .i64 f.Syllables) ∧ W.cell? ⟨w7.heap.size, 1, none⟩ = some (.slice Af f.Feet.length cf) ∧ W.cell? ⟨w7.heap.size, 2, none⟩ = some (.int .i64 f.Main) ∧ W.cell? ⟨w9.heap.size, 0, none⟩ = some (.int .i64 x.Syllables) ∧ W.cell? ⟨w9.heap.size, 1, none⟩ = some (.slice Ax x.Feet.length cx) ∧ W.cell? ⟨w9.heap.size, 2, none⟩ = some (.int .i64 x.Main) ∧ W.cell? ⟨(w9.heap.size + 1), 0, none⟩ = some (.int .i64 y.Syllables) ∧ W.cell? ⟨(w9.heap.size + 1), 1, none⟩ = some (.slice Ay y.Feet.length cy) ∧ W.cell? ⟨(w9.heap.size + 1), 2, none⟩ = some (.int .i64 y.Main)) := fun W hW => ⟨(hW.cell (block_lt_of_cell q0)).trans q0, (hW.cell (block_lt_of_cell q1)).trans q1, (hW.cell (block_lt_of_cell q2)).trans q2, (hW.cell (block_lt_of_cell q3)).trans q3, (hW.cell (block_lt_of_cell q4)).trans q4, (hW.cell (block_lt_of_cell q5)).trans q5, (hW.cell (block_lt_of_cell q6)).trans q6, (hW.cell (block_lt_of_cell q7)).trans q7, (hW.cell (block_lt_of_cell q8)).trans q8⟩
            rw [hK]
            clear HBX9 HX1 HY1 HR9 HQF9 HQX HQY HI2 q0 q1 q2 q3 q4 q5 q6 q7 q8
            generalize f.Main = fM at *
            generalize f.Feet.length = fl at *
            generalize bsF (ftL f) = ft at *
            generalize feq x y = fe at *
            generalize strL f = st at *
            generalize fmL f = fk at *
            generalize f.Syllables = fS at *
            have hbe := (Below.refl wz.heap.size wz).drew
            refine wp_region_noPanic ?_
            refine wp_region_held_drew (S := (fun w' => w'.cell? ⟨w7.heap.size, 0, none⟩ = some (.int .i64 fS) ∧ w'.cell? ⟨w7.heap.size, 1, none⟩ = some (.slice Af fl cf) ∧ w'.cell? ⟨w7.heap.size, 2, none⟩ = some (.int .i64 fM) ∧ w'.cell? ⟨w9.heap.size, 0, none⟩ = some (.int .i64 x.Syllables) ∧ w'.cell? ⟨w9.heap.size, 1, none⟩ = some (.slice Ax x.Feet.length cx) ∧ w'.cell? ⟨w9.heap.size, 2, none⟩ = some (.int .i64 x.Main) ∧ w'.cell? ⟨(w9.heap.size + 1), 0, none⟩ = some (.int .i64 y.Syllables) ∧ w'.cell? ⟨(w9.heap.size + 1), 1, none⟩ = some (.slice Ay y.Feet.length cy) ∧ w'.cell? ⟨(w9.heap.size + 1), 2, none⟩ = some (.int .i64 y.Main))) (by kernel_rfl) ?_ (fun hHeld => ?_)
            · exact HKEEP.out _ hbe
            refine wpAnyH_take (i := 0) (oi := { dst := some 98, op := Op.move (Operand.tmp 12), type := 24, pos := "laws.go:242", after := #[], guard := none }) (v := ?_) rfl (by kernel_rfl) (by kernel_rfl) (by kernel_rfl) (fun _ _ _ h => h) (Or.inl ⟨by rfl, ?_⟩) (by assumption) ?_
            rotate_left
            · (intro w hSw; (try dsimp only at hSw); go_simp; try with_reducible rfl)
            try simp only [Act.put, List.setIfInBounds_toArray, List.set_cons_zero, List.set_cons_succ]
            refine wpAnyH_take (i := 1) (oi := { dst := some 99, op := Op.load 31 (Operand.tmp 11), type := 31, pos := "laws.go:242", after := #[], guard := none }) (v := ?_) rfl (by kernel_rfl) (by kernel_rfl) (by kernel_rfl) (fun _ _ _ h => h) (Or.inl ⟨by rfl, ?_⟩) (by assumption) ?_
            rotate_left
            · (intro w hSw; (try dsimp only at hSw); go_simp; try with_reducible rfl)
            try simp only [Act.put, List.setIfInBounds_toArray, List.set_cons_zero, List.set_cons_succ]
            refine wpAnyH_ready (rs := [2]) (by kernel_rfl) (by simp) ?_
            refine AllReadyH.cons (o := { dst := some 100, op := Op.call { callee := Callee.value (Operand.func 19), args := #[Operand.tmp 99], argTypes := #[31] }, type := 24, pos := "laws.go:242", after := #[{ on := 1, ground := Ground.data }], guard := none }) rfl (fun K hK => ?_) AllReadyH.nil
            go_simp
            go_at_call 19; refine (HSF.out _ ?_).mono ?_; (first | exact ⟨rfl, rfl, rfl, Nat.le_refl _, fun _ _ => rfl⟩ | exact hbe | exact ⟨hbe.os, hbe.tape, hbe.output, hbe.size, hbe.block⟩); rintro e wa ⟨A5, c5, rfl, hr5, hbe⟩; have HRA := Lib.hid hr5
            go_wp2_with fail
            clear hHeld
            refine hK.out _ _ ?_ (fun hHeld => ?_)
            · exact HKEEP.out _ hbe
            clear hK K
            try simp only [Act.put, List.setIfInBounds_toArray, List.set_cons_zero, List.set_cons_succ]
            refine wpAnyH_ready (rs := [3]) (by kernel_rfl) (by simp) ?_
            refine AllReadyH.cons (o := { dst := some 101, op := Op.call { callee := Callee.value (Operand.func 11), args := #[Operand.tmp 98, Operand.tmp 100], argTypes := #[24, 24] }, type := 4, pos := "laws.go:242", after := #[{ on := 0, ground := Ground.data }, { on := 2, ground := Ground.data }, { on := 2, ground := Ground.chain }], guard := none }) rfl (fun K hK => ?_) AllReadyH.nil
            go_simp
            go_at_call 11; refine (same_here (wr := wz) ?_ (HR9'.out.kept ?_) (HRA.out.kept ?_)).mono ?_; (first | exact ⟨rfl, rfl, rfl, Nat.le_refl _, fun _ _ => rfl⟩ | exact hbe | exact ⟨hbe.os, hbe.tape, hbe.output, hbe.size, hbe.block⟩); (first | exact ⟨rfl, rfl, rfl, Nat.le_refl _, fun _ _ => rfl⟩ | exact hbe | exact ⟨hbe.os, hbe.tape, hbe.output, hbe.size, hbe.block⟩); exact ⟨rfl, rfl, rfl, Nat.le_refl _, fun _ _ => rfl⟩; rintro e wa ⟨rfl, hbe⟩
            go_wp2_with fail
            clear hHeld
            refine hK.out _ _ ?_ (fun hHeld => ?_)
            · exact HKEEP.out _ hbe
            clear hK K
            try simp only [Act.put, List.setIfInBounds_toArray, List.set_cons_zero, List.set_cons_succ]
            refine wpAnyH_take (i := 4) (oi := { dst := some 102, op := Op.move (Operand.tmp 101), type := 4, pos := "laws.go:242", after := #[{ on := 3, ground := Ground.data }, { on := 3, ground := Ground.chain }], guard := none }) (v := ?_) rfl (by kernel_rfl) (by kernel_rfl) (by kernel_rfl) (fun _ _ _ h => h) (Or.inl ⟨by rfl, ?_⟩) (by assumption) ?_
            rotate_left
            · (intro w hSw; (try dsimp only at hSw); go_simp; try with_reducible rfl)
            try simp only [Act.put, List.setIfInBounds_toArray, List.set_cons_zero, List.set_cons_succ]
            refine wpAnyH_take (i := 5) (oi := { dst := some 103, op := Op.load 31 (Operand.tmp 11), type := 31, pos := "laws.go:242", after := #[{ on := 4, ground := Ground.guard }], guard := some (4, true) }) (v := ?_) rfl (by kernel_rfl) (by kernel_rfl) (by kernel_rfl) (fun _ _ _ h => h) (Or.inl ⟨by rfl, ?_⟩) (by assumption) ?_
            rotate_left
            · (intro w hSw; (try dsimp only at hSw); go_simp; try with_reducible rfl)
            try simp only [Act.put, List.setIfInBounds_toArray, List.set_cons_zero, List.set_cons_succ]
            refine wpAnyH_take (i := 7) (oi := { dst := some 105, op := Op.load 31 (Operand.tmp 11), type := 31, pos := "laws.go:242", after := #[{ on := 4, ground := Ground.guard }], guard := some (4, true) }) (v := ?_) rfl (by kernel_rfl) (by kernel_rfl) (by kernel_rfl) (fun _ _ _ h => h) (Or.inl ⟨by rfl, ?_⟩) (by assumption) ?_
            rotate_left
            · (intro w hSw; (try dsimp only at hSw); go_simp; try with_reducible rfl)
            try simp only [Act.put, List.setIfInBounds_toArray, List.set_cons_zero, List.set_cons_succ]
            refine wpAnyH_ready (rs := [6]) (by kernel_rfl) (by simp) ?_
            refine AllReadyH.cons (o := { dst := some 104, op := Op.call { callee := Callee.value (Operand.func 20), args := #[Operand.tmp 103], argTypes := #[31] }, type := 9, pos := "laws.go:242", after := #[{ on := 5, ground := Ground.data }, { on := 4, ground := Ground.chain }, { on := 4, ground := Ground.guard }], guard := some (4, true) }) rfl (fun K hK => ?_) AllReadyH.nil
            go_simp
            go_at_call 20; refine (HIFF.out _ ?_).mono ?_; (first | exact ⟨rfl, rfl, rfl, Nat.le_refl _, fun _ _ => rfl⟩ | exact hbe | exact ⟨hbe.os, hbe.tape, hbe.output, hbe.size, hbe.block⟩); rintro e wa ⟨rfl, hbe⟩
            go_wp2_with fail
            clear hHeld
            refine hK.out _ _ ?_ (fun hHeld => ?_)
            · exact HKEEP.out _ hbe
            clear hK K
            try simp only [Act.put, List.setIfInBounds_toArray, List.set_cons_zero, List.set_cons_succ]
            refine wpAnyH_ready (rs := [8]) (by kernel_rfl) (by simp) ?_
            refine AllReadyH.cons (o := { dst := some 106, op := Op.call { callee := Callee.value (Operand.func 21), args := #[Operand.tmp 105], argTypes := #[31] }, type := 9, pos := "laws.go:242", after := #[{ on := 7, ground := Ground.data }, { on := 6, ground := Ground.chain }, { on := 4, ground := Ground.guard }], guard := some (4, true) }) rfl (fun K hK => ?_) AllReadyH.nil
            go_simp
            go_at_call 21; refine (HSFF.out _ ?_).mono ?_; (first | exact ⟨rfl, rfl, rfl, Nat.le_refl _, fun _ _ => rfl⟩ | exact hbe | exact ⟨hbe.os, hbe.tape, hbe.output, hbe.size, hbe.block⟩); rintro e wa ⟨rfl, hbe⟩
            go_wp2_with fail
            clear hHeld
            refine hK.out _ _ ?_ (fun hHeld => ?_)
            · exact HKEEP.out _ hbe
            clear hK K
            try simp only [Act.put, List.setIfInBounds_toArray, List.set_cons_zero, List.set_cons_succ]
            refine wpAnyH_take (i := 9) (oi := { dst := some 107, op := Op.binOp BinOp.eql 9 (Operand.tmp 104) (Operand.tmp 106) 9, type := 4, pos := "laws.go:242", after := #[{ on := 6, ground := Ground.data }, { on := 8, ground := Ground.data }, { on := 4, ground := Ground.guard }], guard := some (4, true) }) (v := ?_) rfl (by kernel_rfl) (by kernel_rfl) (by kernel_rfl) (fun _ _ _ h => h) (Or.inl ⟨by rfl, ?_⟩) (by assumption) ?_
            rotate_left
            · (intro w hSw; (try dsimp only at hSw); go_simp; try with_reducible rfl)
            try simp only [Act.put, List.setIfInBounds_toArray, List.set_cons_zero, List.set_cons_succ]
            refine wpAnyH_take (i := 10) (oi := { dst := some 108, op := Op.pick (Operand.tmp 102) (Operand.tmp 107) (Operand.const (Value.bool false)), type := 4, pos := "laws.go:242", after := #[{ on := 4, ground := Ground.data }, { on := 9, ground := Ground.data }], guard := none }) (v := ?_) rfl (by kernel_rfl) (by kernel_rfl) (by kernel_rfl) (fun _ _ _ h => h) (Or.inl ⟨by rfl, ?_⟩) (by assumption) ?_
            rotate_left
            · (intro w hSw; (try dsimp only at hSw); go_simp; try with_reducible rfl)
            try simp only [Act.put, List.setIfInBounds_toArray, List.set_cons_zero, List.set_cons_succ]
            refine wpAnyH_take (i := 11) (oi := { dst := some 109, op := Op.move (Operand.tmp 108), type := 4, pos := "laws.go:242", after := #[{ on := 10, ground := Ground.data }, { on := 8, ground := Ground.chain }], guard := none }) (v := ?_) rfl (by kernel_rfl) (by kernel_rfl) (by kernel_rfl) (fun _ _ _ h => h) (Or.inl ⟨by rfl, ?_⟩) (by assumption) ?_
            rotate_left
            · (intro w hSw; (try dsimp only at hSw); go_simp; try with_reducible rfl)
            try simp only [Act.put, List.setIfInBounds_toArray, List.set_cons_zero, List.set_cons_succ]
            refine wpAnyH_take (i := 12) (oi := { dst := some 110, op := Op.load 31 (Operand.tmp 11), type := 31, pos := "laws.go:242", after := #[{ on := 11, ground := Ground.guard }], guard := some (11, true) }) (v := ?_) rfl (by kernel_rfl) (by kernel_rfl) (by kernel_rfl) (fun _ _ _ h => h) (Or.inl ⟨by rfl, ?_⟩) (by assumption) ?_
            rotate_left
            · (intro w hSw; (try dsimp only at hSw); go_simp; try with_reducible rfl)
            try simp only [Act.put, List.setIfInBounds_toArray, List.set_cons_zero, List.set_cons_succ]
            refine wpAnyH_take (i := 14) (oi := { dst := some 112, op := Op.load 31 (Operand.tmp 11), type := 31, pos := "laws.go:242", after := #[{ on := 11, ground := Ground.guard }], guard := some (11, true) }) (v := ?_) rfl (by kernel_rfl) (by kernel_rfl) (by kernel_rfl) (fun _ _ _ h => h) (Or.inl ⟨by rfl, ?_⟩) (by assumption) ?_
            rotate_left
            · (intro w hSw; (try dsimp only at hSw); go_simp; try with_reducible rfl)
            try simp only [Act.put, List.setIfInBounds_toArray, List.set_cons_zero, List.set_cons_succ]
            refine wpAnyH_ready (rs := [13]) (by kernel_rfl) (by simp) ?_
            refine AllReadyH.cons (o := { dst := some 111, op := Op.call { callee := Callee.value (Operand.func 10), args := #[Operand.tmp 110], argTypes := #[31] }, type := 4, pos := "laws.go:242", after := #[{ on := 12, ground := Ground.data }, { on := 11, ground := Ground.chain }, { on := 11, ground := Ground.guard }], guard := some (11, true) }) rfl (fun K hK => ?_) AllReadyH.nil
            go_simp
            go_at_call 10; refine (HIIS.out _ ?_).mono ?_; (first | exact ⟨rfl, rfl, rfl, Nat.le_refl _, fun _ _ => rfl⟩ | exact hbe | exact ⟨hbe.os, hbe.tape, hbe.output, hbe.size, hbe.block⟩); rintro e wa ⟨rfl, hbe⟩
            go_wp2_with fail
            clear hHeld
            refine hK.out _ _ ?_ (fun hHeld => ?_)
            · exact HKEEP.out _ hbe
            clear hK K
            try simp only [Act.put, List.setIfInBounds_toArray, List.set_cons_zero, List.set_cons_succ]
            refine wpAnyH_ready (rs := [15]) (by kernel_rfl) (by simp) ?_
            refine AllReadyH.cons (o := { dst := some 113, op := Op.call { callee := Callee.value (Operand.func 22), args := #[Operand.tmp 112], argTypes := #[31] }, type := 4, pos := "laws.go:242", after := #[{ on := 14, ground := Ground.data }, { on := 13, ground := Ground.chain }, { on := 11, ground := Ground.guard }], guard := some (11, true) }) rfl (fun K hK => ?_) AllReadyH.nil
            go_simp
            go_at_call 22; refine (HSIS.out _ ?_).mono ?_; (first | exact ⟨rfl, rfl, rfl, Nat.le_refl _, fun _ _ => rfl⟩ | exact hbe | exact ⟨hbe.os, hbe.tape, hbe.output, hbe.size, hbe.block⟩); rintro e wa ⟨rfl, hbe⟩
            go_wp2_with fail
            clear hHeld
            refine hK.out _ _ ?_ (fun hHeld => ?_)
            · exact HKEEP.out _ hbe
            clear hK K
            try simp only [Act.put, List.setIfInBounds_toArray, List.set_cons_zero, List.set_cons_succ]
            refine wpAnyH_take (i := 16) (oi := { dst := some 114, op := Op.binOp BinOp.eql 4 (Operand.tmp 111) (Operand.tmp 113) 4, type := 4, pos := "laws.go:242", after := #[{ on := 13, ground := Ground.data }, { on := 15, ground := Ground.data }, { on := 11, ground := Ground.guard }], guard := some (11, true) }) (v := ?_) rfl (by kernel_rfl) (by kernel_rfl) (by kernel_rfl) (fun _ _ _ h => h) (Or.inl ⟨by rfl, ?_⟩) (by assumption) ?_
            rotate_left
            · (intro w hSw; (try dsimp only at hSw); go_simp; try with_reducible rfl)
            try simp only [Act.put, List.setIfInBounds_toArray, List.set_cons_zero, List.set_cons_succ]
            refine wpAnyH_take (i := 17) (oi := { dst := some 115, op := Op.pick (Operand.tmp 109) (Operand.tmp 114) (Operand.const (Value.bool false)), type := 4, pos := "laws.go:242", after := #[{ on := 11, ground := Ground.data }, { on := 16, ground := Ground.data }], guard := none }) (v := ?_) rfl (by kernel_rfl) (by kernel_rfl) (by kernel_rfl) (fun _ _ _ h => h) (Or.inl ⟨by rfl, ?_⟩) (by assumption) ?_
            rotate_left
            · (intro w hSw; (try dsimp only at hSw); go_simp; try with_reducible rfl)
            try simp only [Act.put, List.setIfInBounds_toArray, List.set_cons_zero, List.set_cons_succ]
            refine wpAnyH_take (i := 18) (oi := { dst := some 116, op := Op.move (Operand.tmp 115), type := 4, pos := "laws.go:242", after := #[{ on := 17, ground := Ground.data }, { on := 15, ground := Ground.chain }], guard := none }) (v := ?_) rfl (by kernel_rfl) (by kernel_rfl) (by kernel_rfl) (fun _ _ _ h => h) (Or.inl ⟨by rfl, ?_⟩) (by assumption) ?_
            rotate_left
            · (intro w hSw; (try dsimp only at hSw); go_simp; try with_reducible rfl)
            try simp only [Act.put, List.setIfInBounds_toArray, List.set_cons_zero, List.set_cons_succ]
            refine wpAnyH_take (i := 19) (oi := { dst := some 117, op := Op.load 31 (Operand.tmp 11), type := 31, pos := "laws.go:242", after := #[{ on := 18, ground := Ground.guard }], guard := some (18, true) }) (v := ?_) rfl (by kernel_rfl) (by kernel_rfl) (by kernel_rfl) (fun _ _ _ h => h) (Or.inl ⟨by rfl, ?_⟩) (by assumption) ?_
            rotate_left
            · (intro w hSw; (try dsimp only at hSw); go_simp; try with_reducible rfl)
            try simp only [Act.put, List.setIfInBounds_toArray, List.set_cons_zero, List.set_cons_succ]
            refine wpAnyH_take (i := 21) (oi := { dst := some 119, op := Op.load 31 (Operand.tmp 11), type := 31, pos := "laws.go:242", after := #[{ on := 18, ground := Ground.guard }], guard := some (18, true) }) (v := ?_) rfl (by kernel_rfl) (by kernel_rfl) (by kernel_rfl) (fun _ _ _ h => h) (Or.inl ⟨by rfl, ?_⟩) (by assumption) ?_
            rotate_left
            · (intro w hSw; (try dsimp only at hSw); go_simp; try with_reducible rfl)
            try simp only [Act.put, List.setIfInBounds_toArray, List.set_cons_zero, List.set_cons_succ]
            refine wpAnyH_ready (rs := [20]) (by kernel_rfl) (by simp) ?_
            refine AllReadyH.cons (o := { dst := some 118, op := Op.call { callee := Callee.value (Operand.func 12), args := #[Operand.tmp 117], argTypes := #[31] }, type := 24, pos := "laws.go:242", after := #[{ on := 19, ground := Ground.data }, { on := 18, ground := Ground.chain }, { on := 18, ground := Ground.guard }], guard := some (18, true) }) rfl (fun K hK => ?_) AllReadyH.nil
            go_simp
            go_at_call 12; refine (HIST.out _ ?_).mono ?_; (first | exact ⟨rfl, rfl, rfl, Nat.le_refl _, fun _ _ => rfl⟩ | exact hbe | exact ⟨hbe.os, hbe.tape, hbe.output, hbe.size, hbe.block⟩); rintro e wa ⟨A5, c5, rfl, hr5, hbe⟩; have HRB := Lib.hid hr5; have HBB := Lib.hid hbe
            go_wp2_with fail
            clear hHeld
            refine hK.out _ _ ?_ (fun hHeld => ?_)
            · exact HKEEP.out _ hbe
            clear hK K
            try simp only [Act.put, List.setIfInBounds_toArray, List.set_cons_zero, List.set_cons_succ]
            refine wpAnyH_ready (rs := [22]) (by kernel_rfl) (by simp) ?_
            refine AllReadyH.cons (o := { dst := some 120, op := Op.call { callee := Callee.value (Operand.func 23), args := #[Operand.tmp 119], argTypes := #[31] }, type := 24, pos := "laws.go:242", after := #[{ on := 21, ground := Ground.data }, { on := 20, ground := Ground.chain }, { on := 18, ground := Ground.guard }], guard := some (18, true) }) rfl (fun K hK => ?_) AllReadyH.nil
            go_simp
            go_at_call 23; refine (HSSR.out _ _ _ HRB.out HBB.out ?_).mono ?_; (first | exact ⟨rfl, rfl, rfl, Nat.le_refl _, fun _ _ => rfl⟩ | exact hbe | exact ⟨hbe.os, hbe.tape, hbe.output, hbe.size, hbe.block⟩); rintro e wa ⟨A6, c6, rfl, hr6, hr7, hbe⟩; have HRB2 := Lib.hid hr6; have HRC := Lib.hid hr7
            go_wp2_with fail
            clear hHeld
            refine hK.out _ _ ?_ (fun hHeld => ?_)
            · exact HKEEP.out _ hbe
            clear hK K
            try simp only [Act.put, List.setIfInBounds_toArray, List.set_cons_zero, List.set_cons_succ]
            refine wpAnyH_ready (rs := [23]) (by kernel_rfl) (by simp) ?_
            refine AllReadyH.cons (o := { dst := some 121, op := Op.call { callee := Callee.value (Operand.func 11), args := #[Operand.tmp 118, Operand.tmp 120], argTypes := #[24, 24] }, type := 4, pos := "laws.go:242", after := #[{ on := 20, ground := Ground.data }, { on := 22, ground := Ground.data }, { on := 22, ground := Ground.chain }, { on := 18, ground := Ground.guard }], guard := some (18, true) }) rfl (fun K hK => ?_) AllReadyH.nil
            go_simp
            go_at_call 11; refine (same_here (wr := wz) ?_ (HRB2.out.kept ?_) (HRC.out.kept ?_)).mono ?_; (first | exact ⟨rfl, rfl, rfl, Nat.le_refl _, fun _ _ => rfl⟩ | exact hbe | exact ⟨hbe.os, hbe.tape, hbe.output, hbe.size, hbe.block⟩); exact ⟨rfl, rfl, rfl, Nat.le_refl _, fun _ _ => rfl⟩; exact ⟨rfl, rfl, rfl, Nat.le_refl _, fun _ _ => rfl⟩; rintro e wa ⟨rfl, hbe⟩
            go_wp2_with fail
            clear hHeld
            refine hK.out _ _ ?_ (fun hHeld => ?_)
            · exact HKEEP.out _ hbe
            clear hK K
            try simp only [Act.put, List.setIfInBounds_toArray, List.set_cons_zero, List.set_cons_succ]
            refine wpAnyH_take (i := 24) (oi := { dst := some 122, op := Op.pick (Operand.tmp 116) (Operand.tmp 121) (Operand.const (Value.bool false)), type := 4, pos := "laws.go:242", after := #[{ on := 18, ground := Ground.data }, { on := 23, ground := Ground.data }], guard := none }) (v := ?_) rfl (by kernel_rfl) (by kernel_rfl) (by kernel_rfl) (fun _ _ _ h => h) (Or.inl ⟨by rfl, ?_⟩) (by assumption) ?_
            rotate_left
            · (intro w hSw; (try dsimp only at hSw); go_simp; try with_reducible rfl)
            try simp only [Act.put, List.setIfInBounds_toArray, List.set_cons_zero, List.set_cons_succ]
            refine wpAnyH_take (i := 25) (oi := { dst := some 123, op := Op.move (Operand.tmp 122), type := 4, pos := "laws.go:242", after := #[{ on := 24, ground := Ground.data }, { on := 23, ground := Ground.chain }], guard := none }) (v := ?_) rfl (by kernel_rfl) (by kernel_rfl) (by kernel_rfl) (fun _ _ _ h => h) (Or.inl ⟨by rfl, ?_⟩) (by assumption) ?_
            rotate_left
            · (intro w hSw; (try dsimp only at hSw); go_simp; try with_reducible rfl)
            try simp only [Act.put, List.setIfInBounds_toArray, List.set_cons_zero, List.set_cons_succ]
            refine wpAnyH_take (i := 26) (oi := { dst := some 124, op := Op.move (Operand.tmp 12), type := 24, pos := "laws.go:242", after := #[{ on := 25, ground := Ground.guard }], guard := some (25, true) }) (v := ?_) rfl (by kernel_rfl) (by kernel_rfl) (by kernel_rfl) (fun _ _ _ h => h) (Or.inl ⟨by rfl, ?_⟩) (by assumption) ?_
            rotate_left
            · (intro w hSw; (try dsimp only at hSw); go_simp; try with_reducible rfl)
            try simp only [Act.put, List.setIfInBounds_toArray, List.set_cons_zero, List.set_cons_succ]
            refine wpAnyH_take (i := 27) (oi := { dst := some 125, op := Op.call { callee := Callee.builtin Builtin.len, args := #[Operand.tmp 124], argTypes := #[24] }, type := 3, pos := "laws.go:242", after := #[{ on := 26, ground := Ground.data }, { on := 25, ground := Ground.guard }], guard := some (25, true) }) (v := ?_) rfl (by kernel_rfl) (by kernel_rfl) (by kernel_rfl) (fun _ _ _ h => h) (Or.inl ⟨by rfl, ?_⟩) (by assumption) ?_
            rotate_left
            · (intro w hSw; (try dsimp only at hSw); go_simp; try with_reducible rfl)
            try simp only [Act.put, List.setIfInBounds_toArray, List.set_cons_zero, List.set_cons_succ]
            refine wpAnyH_take (i := 28) (oi := { dst := some 126, op := Op.binOp BinOp.eql 3 (Operand.tmp 125) (Operand.const (Value.int IntKind.i64 0)) 3, type := 4, pos := "laws.go:242", after := #[{ on := 27, ground := Ground.data }, { on := 25, ground := Ground.guard }], guard := some (25, true) }) (v := ?_) rfl (by kernel_rfl) (by kernel_rfl) (by kernel_rfl) (fun _ _ _ h => h) (Or.inl ⟨by rfl, ?_⟩) (by assumption) ?_
            rotate_left
            · (intro w hSw; (try dsimp only at hSw); go_simp; try with_reducible rfl)
            try simp only [Act.put, List.setIfInBounds_toArray, List.set_cons_zero, List.set_cons_succ]
            refine wpAnyH_take (i := 29) (oi := { dst := some 127, op := Op.move (Operand.tmp 126), type := 4, pos := "laws.go:242", after := #[{ on := 28, ground := Ground.data }, { on := 25, ground := Ground.chain }, { on := 25, ground := Ground.guard }], guard := some (25, true) }) (v := ?_) rfl (by kernel_rfl) (by kernel_rfl) (by kernel_rfl) (fun _ _ _ h => h) (Or.inl ⟨by rfl, ?_⟩) (by assumption) ?_
            rotate_left
            · (intro w hSw; (try dsimp only at hSw); go_simp; try with_reducible rfl)
            try simp only [Act.put, List.setIfInBounds_toArray, List.set_cons_zero, List.set_cons_succ]
            refine wpAnyH_take (i := 30) (oi := { dst := some 128, op := Op.move (Operand.tmp 12), type := 24, pos := "laws.go:242", after := #[{ on := 29, ground := Ground.guard }], guard := some (29, false) }) (v := undef) rfl (by kernel_rfl) (by kernel_rfl) (by kernel_rfl) (fun _ _ _ h => h) (Or.inr ⟨by rfl, rfl⟩) (by assumption) ?_
            try simp only [Act.put, List.setIfInBounds_toArray, List.set_cons_zero, List.set_cons_succ]
            refine wpAnyH_take (i := 31) (oi := { dst := some 129, op := Op.indexAddr 24 (Operand.tmp 128) (Operand.const (Value.int IntKind.i64 0)), type := 0, pos := "laws.go:242", after := #[{ on := 30, ground := Ground.data }, { on := 29, ground := Ground.guard }], guard := some (29, false) }) (v := undef) rfl (by kernel_rfl) (by kernel_rfl) (by kernel_rfl) (fun _ _ _ h => h) (Or.inr ⟨by rfl, rfl⟩) (by assumption) ?_
            try simp only [Act.put, List.setIfInBounds_toArray, List.set_cons_zero, List.set_cons_succ]
            refine wpAnyH_take (i := 32) (oi := { dst := some 130, op := Op.load 3 (Operand.tmp 129), type := 3, pos := "laws.go:242", after := #[{ on := 31, ground := Ground.data }, { on := 29, ground := Ground.guard }], guard := some (29, false) }) (v := undef) rfl (by kernel_rfl) (by kernel_rfl) (by kernel_rfl) (fun _ _ _ h => h) (Or.inr ⟨by rfl, rfl⟩) (by assumption) ?_
            try simp only [Act.put, List.setIfInBounds_toArray, List.set_cons_zero, List.set_cons_succ]
            refine wpAnyH_take (i := 33) (oi := { dst := some 131, op := Op.move (Operand.tmp 12), type := 24, pos := "laws.go:242", after := #[{ on := 29, ground := Ground.guard }], guard := some (29, false) }) (v := undef) rfl (by kernel_rfl) (by kernel_rfl) (by kernel_rfl) (fun _ _ _ h => h) (Or.inr ⟨by rfl, rfl⟩) (by assumption) ?_
            try simp only [Act.put, List.setIfInBounds_toArray, List.set_cons_zero, List.set_cons_succ]
            refine wpAnyH_take (i := 34) (oi := { dst := some 132, op := Op.indexAddr 24 (Operand.tmp 131) (Operand.const (Value.int IntKind.i64 1)), type := 0, pos := "laws.go:242", after := #[{ on := 33, ground := Ground.data }, { on := 29, ground := Ground.guard }], guard := some (29, false) }) (v := undef) rfl (by kernel_rfl) (by kernel_rfl) (by kernel_rfl) (fun _ _ _ h => h) (Or.inr ⟨by rfl, rfl⟩) (by assumption) ?_
            try simp only [Act.put, List.setIfInBounds_toArray, List.set_cons_zero, List.set_cons_succ]
            refine wpAnyH_take (i := 35) (oi := { dst := some 133, op := Op.load 3 (Operand.tmp 132), type := 3, pos := "laws.go:242", after := #[{ on := 34, ground := Ground.data }, { on := 29, ground := Ground.guard }], guard := some (29, false) }) (v := undef) rfl (by kernel_rfl) (by kernel_rfl) (by kernel_rfl) (fun _ _ _ h => h) (Or.inr ⟨by rfl, rfl⟩) (by assumption) ?_
            try simp only [Act.put, List.setIfInBounds_toArray, List.set_cons_zero, List.set_cons_succ]
            refine wpAnyH_take (i := 36) (oi := { dst := some 134, op := Op.binOp BinOp.add 3 (Operand.tmp 130) (Operand.tmp 133) 3, type := 3, pos := "laws.go:242", after := #[{ on := 32, ground := Ground.data }, { on := 35, ground := Ground.data }, { on := 29, ground := Ground.guard }], guard := some (29, false) }) (v := undef) rfl (by kernel_rfl) (by kernel_rfl) (by kernel_rfl) (fun _ _ _ h => h) (Or.inr ⟨by rfl, rfl⟩) (by assumption) ?_
            try simp only [Act.put, List.setIfInBounds_toArray, List.set_cons_zero, List.set_cons_succ]
            refine wpAnyH_take (i := 37) (oi := { dst := some 135, op := Op.move (Operand.tmp 12), type := 24, pos := "laws.go:242", after := #[{ on := 29, ground := Ground.guard }], guard := some (29, false) }) (v := undef) rfl (by kernel_rfl) (by kernel_rfl) (by kernel_rfl) (fun _ _ _ h => h) (Or.inr ⟨by rfl, rfl⟩) (by assumption) ?_
            try simp only [Act.put, List.setIfInBounds_toArray, List.set_cons_zero, List.set_cons_succ]
            refine wpAnyH_take (i := 38) (oi := { dst := some 136, op := Op.indexAddr 24 (Operand.tmp 135) (Operand.const (Value.int IntKind.i64 2)), type := 0, pos := "laws.go:242", after := #[{ on := 37, ground := Ground.data }, { on := 29, ground := Ground.guard }], guard := some (29, false) }) (v := undef) rfl (by kernel_rfl) (by kernel_rfl) (by kernel_rfl) (fun _ _ _ h => h) (Or.inr ⟨by rfl, rfl⟩) (by assumption) ?_
            try simp only [Act.put, List.setIfInBounds_toArray, List.set_cons_zero, List.set_cons_succ]
            refine wpAnyH_take (i := 39) (oi := { dst := some 137, op := Op.load 3 (Operand.tmp 136), type := 3, pos := "laws.go:242", after := #[{ on := 38, ground := Ground.data }, { on := 29, ground := Ground.guard }], guard := some (29, false) }) (v := undef) rfl (by kernel_rfl) (by kernel_rfl) (by kernel_rfl) (fun _ _ _ h => h) (Or.inr ⟨by rfl, rfl⟩) (by assumption) ?_
            try simp only [Act.put, List.setIfInBounds_toArray, List.set_cons_zero, List.set_cons_succ]
            refine wpAnyH_take (i := 40) (oi := { dst := some 138, op := Op.binOp BinOp.mul 3 (Operand.const (Value.int IntKind.i64 2)) (Operand.tmp 137) 3, type := 3, pos := "laws.go:242", after := #[{ on := 39, ground := Ground.data }, { on := 29, ground := Ground.guard }], guard := some (29, false) }) (v := undef) rfl (by kernel_rfl) (by kernel_rfl) (by kernel_rfl) (fun _ _ _ h => h) (Or.inr ⟨by rfl, rfl⟩) (by assumption) ?_
            try simp only [Act.put, List.setIfInBounds_toArray, List.set_cons_zero, List.set_cons_succ]
            refine wpAnyH_take (i := 41) (oi := { dst := some 139, op := Op.binOp BinOp.add 3 (Operand.tmp 134) (Operand.tmp 138) 3, type := 3, pos := "laws.go:242", after := #[{ on := 36, ground := Ground.data }, { on := 40, ground := Ground.data }, { on := 29, ground := Ground.guard }], guard := some (29, false) }) (v := undef) rfl (by kernel_rfl) (by kernel_rfl) (by kernel_rfl) (fun _ _ _ h => h) (Or.inr ⟨by rfl, rfl⟩) (by assumption) ?_
            try simp only [Act.put, List.setIfInBounds_toArray, List.set_cons_zero, List.set_cons_succ]
            refine wpAnyH_take (i := 42) (oi := { dst := some 140, op := Op.move (Operand.tmp 12), type := 24, pos := "laws.go:242", after := #[{ on := 29, ground := Ground.guard }], guard := some (29, false) }) (v := undef) rfl (by kernel_rfl) (by kernel_rfl) (by kernel_rfl) (fun _ _ _ h => h) (Or.inr ⟨by rfl, rfl⟩) (by assumption) ?_
            try simp only [Act.put, List.setIfInBounds_toArray, List.set_cons_zero, List.set_cons_succ]
            refine wpAnyH_take (i := 43) (oi := { dst := some 141, op := Op.indexAddr 24 (Operand.tmp 140) (Operand.const (Value.int IntKind.i64 3)), type := 0, pos := "laws.go:242", after := #[{ on := 42, ground := Ground.data }, { on := 29, ground := Ground.guard }], guard := some (29, false) }) (v := undef) rfl (by kernel_rfl) (by kernel_rfl) (by kernel_rfl) (fun _ _ _ h => h) (Or.inr ⟨by rfl, rfl⟩) (by assumption) ?_
            try simp only [Act.put, List.setIfInBounds_toArray, List.set_cons_zero, List.set_cons_succ]
            refine wpAnyH_take (i := 44) (oi := { dst := some 142, op := Op.load 3 (Operand.tmp 141), type := 3, pos := "laws.go:242", after := #[{ on := 43, ground := Ground.data }, { on := 29, ground := Ground.guard }], guard := some (29, false) }) (v := undef) rfl (by kernel_rfl) (by kernel_rfl) (by kernel_rfl) (fun _ _ _ h => h) (Or.inr ⟨by rfl, rfl⟩) (by assumption) ?_
            try simp only [Act.put, List.setIfInBounds_toArray, List.set_cons_zero, List.set_cons_succ]
            refine wpAnyH_take (i := 45) (oi := { dst := some 143, op := Op.binOp BinOp.mul 3 (Operand.const (Value.int IntKind.i64 2)) (Operand.tmp 142) 3, type := 3, pos := "laws.go:242", after := #[{ on := 44, ground := Ground.data }, { on := 29, ground := Ground.guard }], guard := some (29, false) }) (v := undef) rfl (by kernel_rfl) (by kernel_rfl) (by kernel_rfl) (fun _ _ _ h => h) (Or.inr ⟨by rfl, rfl⟩) (by assumption) ?_
            try simp only [Act.put, List.setIfInBounds_toArray, List.set_cons_zero, List.set_cons_succ]
            refine wpAnyH_take (i := 46) (oi := { dst := some 144, op := Op.binOp BinOp.add 3 (Operand.tmp 139) (Operand.tmp 143) 3, type := 3, pos := "laws.go:242", after := #[{ on := 41, ground := Ground.data }, { on := 45, ground := Ground.data }, { on := 29, ground := Ground.guard }], guard := some (29, false) }) (v := undef) rfl (by kernel_rfl) (by kernel_rfl) (by kernel_rfl) (fun _ _ _ h => h) (Or.inr ⟨by rfl, rfl⟩) (by assumption) ?_
            try simp only [Act.put, List.setIfInBounds_toArray, List.set_cons_zero, List.set_cons_succ]
            refine wpAnyH_take (i := 47) (oi := { dst := some 145, op := Op.fieldAddr 31 (Operand.tmp 11) 0, type := 0, pos := "laws.go:242", after := #[{ on := 29, ground := Ground.guard }], guard := some (29, false) }) (v := undef) rfl (by kernel_rfl) (by kernel_rfl) (by kernel_rfl) (fun _ _ _ h => h) (Or.inr ⟨by rfl, rfl⟩) (by assumption) ?_
            try simp only [Act.put, List.setIfInBounds_toArray, List.set_cons_zero, List.set_cons_succ]
            refine wpAnyH_take (i := 48) (oi := { dst := some 146, op := Op.load 3 (Operand.tmp 145), type := 3, pos := "laws.go:242", after := #[{ on := 47, ground := Ground.data }, { on := 29, ground := Ground.guard }], guard := some (29, false) }) (v := undef) rfl (by kernel_rfl) (by kernel_rfl) (by kernel_rfl) (fun _ _ _ h => h) (Or.inr ⟨by rfl, rfl⟩) (by assumption) ?_
            try simp only [Act.put, List.setIfInBounds_toArray, List.set_cons_zero, List.set_cons_succ]
            refine wpAnyH_take (i := 49) (oi := { dst := some 147, op := Op.binOp BinOp.eql 3 (Operand.tmp 144) (Operand.tmp 146) 3, type := 4, pos := "laws.go:242", after := #[{ on := 46, ground := Ground.data }, { on := 48, ground := Ground.data }, { on := 29, ground := Ground.guard }], guard := some (29, false) }) (v := undef) rfl (by kernel_rfl) (by kernel_rfl) (by kernel_rfl) (fun _ _ _ h => h) (Or.inr ⟨by rfl, rfl⟩) (by assumption) ?_
            try simp only [Act.put, List.setIfInBounds_toArray, List.set_cons_zero, List.set_cons_succ]
            refine wpAnyH_take (i := 50) (oi := { dst := some 148, op := Op.pick (Operand.tmp 127) (Operand.const (Value.bool true)) (Operand.tmp 147), type := 4, pos := "laws.go:242", after := #[{ on := 29, ground := Ground.data }, { on := 49, ground := Ground.data }, { on := 25, ground := Ground.guard }], guard := some (25, true) }) (v := ?_) rfl (by kernel_rfl) (by kernel_rfl) (by kernel_rfl) (fun _ _ _ h => h) (Or.inl ⟨by rfl, ?_⟩) (by assumption) ?_
            rotate_left
            · (intro w hSw; (try dsimp only at hSw); go_simp; try with_reducible rfl)
            try simp only [Act.put, List.setIfInBounds_toArray, List.set_cons_zero, List.set_cons_succ]
            refine wpAnyH_take (i := 51) (oi := { dst := some 149, op := Op.pick (Operand.tmp 123) (Operand.tmp 148) (Operand.const (Value.bool false)), type := 4, pos := "laws.go:242", after := #[{ on := 25, ground := Ground.data }, { on := 50, ground := Ground.data }], guard := none }) (v := ?_) rfl (by kernel_rfl) (by kernel_rfl) (by kernel_rfl) (fun _ _ _ h => h) (Or.inl ⟨by rfl, ?_⟩) (by assumption) ?_
            rotate_left
            · (intro w hSw; (try dsimp only at hSw); go_simp; try with_reducible rfl)
            try simp only [Act.put, List.setIfInBounds_toArray, List.set_cons_zero, List.set_cons_succ]
            refine wpAnyH_take (i := 52) (oi := { dst := some 150, op := Op.move (Operand.tmp 149), type := 4, pos := "laws.go:242", after := #[{ on := 51, ground := Ground.data }, { on := 29, ground := Ground.chain }], guard := none }) (v := ?_) rfl (by kernel_rfl) (by kernel_rfl) (by kernel_rfl) (fun _ _ _ h => h) (Or.inl ⟨by rfl, ?_⟩) (by assumption) ?_
            rotate_left
            · (intro w hSw; (try dsimp only at hSw); go_simp; try with_reducible rfl)
            try simp only [Act.put, List.setIfInBounds_toArray, List.set_cons_zero, List.set_cons_succ]
            refine wpAnyH_take (i := 53) (oi := { dst := some 151, op := Op.load 31 (Operand.tmp 13), type := 31, pos := "laws.go:242", after := #[{ on := 52, ground := Ground.guard }], guard := some (52, true) }) (v := ?_) rfl (by kernel_rfl) (by kernel_rfl) (by kernel_rfl) (fun _ _ _ h => h) (Or.inl ⟨by rfl, ?_⟩) (by assumption) ?_
            rotate_left
            · (intro w hSw; (try dsimp only at hSw); go_simp; try with_reducible rfl)
            try simp only [Act.put, List.setIfInBounds_toArray, List.set_cons_zero, List.set_cons_succ]
            refine wpAnyH_take (i := 54) (oi := { dst := some 152, op := Op.load 31 (Operand.tmp 14), type := 31, pos := "laws.go:242", after := #[{ on := 52, ground := Ground.guard }], guard := some (52, true) }) (v := ?_) rfl (by kernel_rfl) (by kernel_rfl) (by kernel_rfl) (fun _ _ _ h => h) (Or.inl ⟨by rfl, ?_⟩) (by assumption) ?_
            rotate_left
            · (intro w hSw; (try dsimp only at hSw); go_simp; try with_reducible rfl)
            try simp only [Act.put, List.setIfInBounds_toArray, List.set_cons_zero, List.set_cons_succ]
            refine wpAnyH_take (i := 56) (oi := { dst := some 154, op := Op.load 31 (Operand.tmp 13), type := 31, pos := "laws.go:242", after := #[{ on := 52, ground := Ground.guard }], guard := some (52, true) }) (v := ?_) rfl (by kernel_rfl) (by kernel_rfl) (by kernel_rfl) (fun _ _ _ h => h) (Or.inl ⟨by rfl, ?_⟩) (by assumption) ?_
            rotate_left
            · (intro w hSw; (try dsimp only at hSw); go_simp; try with_reducible rfl)
            try simp only [Act.put, List.setIfInBounds_toArray, List.set_cons_zero, List.set_cons_succ]
            refine wpAnyH_take (i := 57) (oi := { dst := some 155, op := Op.load 31 (Operand.tmp 14), type := 31, pos := "laws.go:242", after := #[{ on := 52, ground := Ground.guard }], guard := some (52, true) }) (v := ?_) rfl (by kernel_rfl) (by kernel_rfl) (by kernel_rfl) (fun _ _ _ h => h) (Or.inl ⟨by rfl, ?_⟩) (by assumption) ?_
            rotate_left
            · (intro w hSw; (try dsimp only at hSw); go_simp; try with_reducible rfl)
            try simp only [Act.put, List.setIfInBounds_toArray, List.set_cons_zero, List.set_cons_succ]
            refine wpAnyH_ready (rs := [55]) (by kernel_rfl) (by simp) ?_
            refine AllReadyH.cons (o := { dst := some 153, op := Op.call { callee := Callee.value (Operand.func 24), args := #[Operand.tmp 151, Operand.tmp 152], argTypes := #[31, 31] }, type := 4, pos := "laws.go:242", after := #[{ on := 53, ground := Ground.data }, { on := 54, ground := Ground.data }, { on := 52, ground := Ground.chain }, { on := 52, ground := Ground.guard }], guard := some (52, true) }) rfl (fun K hK => ?_) AllReadyH.nil
            go_simp
            go_at_call 24; refine (HIEQ.out _ ?_).mono ?_; (first | exact ⟨rfl, rfl, rfl, Nat.le_refl _, fun _ _ => rfl⟩ | exact hbe | exact ⟨hbe.os, hbe.tape, hbe.output, hbe.size, hbe.block⟩); rintro e wa ⟨rfl, hbe⟩
            go_wp2_with fail
            clear hHeld
            refine hK.out _ _ ?_ (fun hHeld => ?_)
            · exact HKEEP.out _ hbe
            clear hK K
            try simp only [Act.put, List.setIfInBounds_toArray, List.set_cons_zero, List.set_cons_succ]
            refine wpAnyH_ready (rs := [58]) (by kernel_rfl) (by simp) ?_
            refine AllReadyH.cons (o := { dst := some 156, op := Op.call { callee := Callee.value (Operand.func 9), args := #[Operand.tmp 154, Operand.tmp 155], argTypes := #[31, 31] }, type := 4, pos := "laws.go:242", after := #[{ on := 56, ground := Ground.data }, { on := 57, ground := Ground.data }, { on := 55, ground := Ground.chain }, { on := 52, ground := Ground.guard }], guard := some (52, true) }) rfl (fun K hK => ?_) AllReadyH.nil
            go_simp
            go_at_call 9; refine (HSEQ.out _ ?_).mono ?_; (first | exact ⟨rfl, rfl, rfl, Nat.le_refl _, fun _ _ => rfl⟩ | exact hbe | exact ⟨hbe.os, hbe.tape, hbe.output, hbe.size, hbe.block⟩); rintro e wa ⟨rfl, hbe⟩
            go_wp2_with fail
            clear hHeld
            refine hK.out _ _ ?_ (fun hHeld => ?_)
            · exact HKEEP.out _ hbe
            clear hK K
            try simp only [Act.put, List.setIfInBounds_toArray, List.set_cons_zero, List.set_cons_succ]
            refine wpAnyH_take (i := 59) (oi := { dst := some 157, op := Op.binOp BinOp.eql 4 (Operand.tmp 153) (Operand.tmp 156) 4, type := 4, pos := "laws.go:242", after := #[{ on := 55, ground := Ground.data }, { on := 58, ground := Ground.data }, { on := 52, ground := Ground.guard }], guard := some (52, true) }) (v := ?_) rfl (by kernel_rfl) (by kernel_rfl) (by kernel_rfl) (fun _ _ _ h => h) (Or.inl ⟨by rfl, ?_⟩) (by assumption) ?_
            rotate_left
            · (intro w hSw; (try dsimp only at hSw); go_simp; try with_reducible rfl)
            try simp only [Act.put, List.setIfInBounds_toArray, List.set_cons_zero, List.set_cons_succ]
            refine wpAnyH_take (i := 60) (oi := { dst := some 158, op := Op.pick (Operand.tmp 150) (Operand.tmp 157) (Operand.const (Value.bool false)), type := 4, pos := "laws.go:242", after := #[{ on := 52, ground := Ground.data }, { on := 59, ground := Ground.data }], guard := none }) (v := ?_) rfl (by kernel_rfl) (by kernel_rfl) (by kernel_rfl) (fun _ _ _ h => h) (Or.inl ⟨by rfl, ?_⟩) (by assumption) ?_
            rotate_left
            · (intro w hSw; (try dsimp only at hSw); go_simp; try with_reducible rfl)
            try simp only [Act.put, List.setIfInBounds_toArray, List.set_cons_zero, List.set_cons_succ]
            refine wpAnyH_take (i := 61) (oi := { dst := some 2, op := Op.assign (Operand.tmp 158), type := 4, pos := "laws.go:242", after := #[{ on := 60, ground := Ground.data }, { on := 58, ground := Ground.chain }, { on := 0, ground := Ground.phase }, { on := 1, ground := Ground.phase }, { on := 2, ground := Ground.phase }, { on := 3, ground := Ground.phase }, { on := 4, ground := Ground.phase }, { on := 5, ground := Ground.phase }, { on := 6, ground := Ground.phase }, { on := 7, ground := Ground.phase }, { on := 8, ground := Ground.phase }, { on := 9, ground := Ground.phase }, { on := 10, ground := Ground.phase }, { on := 11, ground := Ground.phase }, { on := 12, ground := Ground.phase }, { on := 13, ground := Ground.phase }, { on := 14, ground := Ground.phase }, { on := 15, ground := Ground.phase }, { on := 16, ground := Ground.phase }, { on := 17, ground := Ground.phase }, { on := 18, ground := Ground.phase }, { on := 19, ground := Ground.phase }, { on := 20, ground := Ground.phase }, { on := 21, ground := Ground.phase }, { on := 22, ground := Ground.phase }, { on := 23, ground := Ground.phase }, { on := 24, ground := Ground.phase }, { on := 25, ground := Ground.phase }, { on := 26, ground := Ground.phase }, { on := 27, ground := Ground.phase }, { on := 28, ground := Ground.phase }, { on := 29, ground := Ground.phase }, { on := 30, ground := Ground.phase }, { on := 31, ground := Ground.phase }, { on := 32, ground := Ground.phase }, { on := 33, ground := Ground.phase }, { on := 34, ground := Ground.phase }, { on := 35, ground := Ground.phase }, { on := 36, ground := Ground.phase }, { on := 37, ground := Ground.phase }, { on := 38, ground := Ground.phase }, { on := 39, ground := Ground.phase }, { on := 40, ground := Ground.phase }, { on := 41, ground := Ground.phase }, { on := 42, ground := Ground.phase }, { on := 43, ground := Ground.phase }, { on := 44, ground := Ground.phase }, { on := 45, ground := Ground.phase }, { on := 46, ground := Ground.phase }, { on := 47, ground := Ground.phase }, { on := 48, ground := Ground.phase }, { on := 49, ground := Ground.phase }, { on := 50, ground := Ground.phase }, { on := 51, ground := Ground.phase }, { on := 52, ground := Ground.phase }, { on := 53, ground := Ground.phase }, { on := 54, ground := Ground.phase }, { on := 55, ground := Ground.phase }, { on := 56, ground := Ground.phase }, { on := 57, ground := Ground.phase }, { on := 58, ground := Ground.phase }, { on := 59, ground := Ground.phase }, { on := 60, ground := Ground.phase }], guard := none }) (v := ?_) rfl (by kernel_rfl) (by kernel_rfl) (by kernel_rfl) (fun _ _ _ h => h) (Or.inl ⟨by rfl, ?_⟩) (by assumption) ?_
            rotate_left
            · (intro w hSw; (try dsimp only at hSw); go_simp; try with_reducible rfl)
            try simp only [Act.put, List.setIfInBounds_toArray, List.set_cons_zero, List.set_cons_succ]
            refine wpAnyH_done (by kernel_rfl) ?_ _
            refine NoPanic.normal ?_
            all_goals
              have HBE := Lib.hid hbe
              go_wp2
              go_ret
              exact ⟨rfl, HB9.out.trans (HBE.out.mono HB9.out.size)⟩
end Go.Proofs.YtifmcbhgoncgjaaDoor.fnFeet
