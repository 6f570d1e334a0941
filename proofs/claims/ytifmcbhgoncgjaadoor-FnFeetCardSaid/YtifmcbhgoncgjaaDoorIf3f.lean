/- The program's FootMarks: what it answers. -/
import Derived.Test.YtifmcbhgoncgjaaDoorSf3
import Derived.Test.YtifmcbhgoncgjaaDoorIf1f
import Derived.BigRegion
import Derived.BigQuiet
import Derived.Lib.QuietBelow
namespace Go.Proofs.YtifmcbhgoncgjaaDoor
open Go.RowKit Go.Sort
set_option linter.unusedVariables false
set_option linter.unusedSimpArgs false

set_option maxHeartbeats 4000000 in
theorem implFM_any (f : DFooting) (v1 : Value) (F : Addr → Prop) (w : World) (hm : f.Feet.length ≤ 1048576) (hs : I64 f.Syllables) (hmn : I64 f.Main) (hv : RowRd rFoot false w v1 f.Feet F) :
    Calls Tryd.prog 17 #[.agg #[.int .i64 f.Syllables, v1, .int .i64 f.Main]] w (OwnPost Rep.int (fmL f) w) := by
  have HIS : Hid (∀ W, Below w.heap.size w W → Calls Tryd.prog 10 #[.agg #[.int .i64 f.Syllables, v1, .int .i64 f.Main]] W fun e w' => e = .returned (.bool (isFt f)) ∧ Below W.heap.size W w') := fun W hW => implIsF_any f v1 F W hm hs hmn (hv.kept hW)
  obtain ⟨A, cap, rfl⟩ := hv.form
  have HV := Lib.hid hv
  have HX : Hid (∀ k, k < f.Feet.length → ∃ x, f.Feet[k]? = some x) := fun k hk => ⟨_, List.getElem?_eq_getElem hk⟩
  clear hv
  by_cases hft : isFt f = true
  · obtain ⟨g1, g2, g3, g4, g5⟩ := isFt_iff.1 hft
    have HOK := Lib.hid (fmTo_ok hft)
    have HAT : Hid (∀ (k : Nat) (x : DFoot), f.Feet[k]? = some x → 0 ≤ x.From ∧ 1 ≤ x.Size ∧ x.Size ≤ 2 ∧ x.From + x.Size ≤ f.Syllables ∧ 0 ≤ x.Head ∧ x.Head ≤ x.Size - 1) := fun k x h => okFeet_at g3 (by omega) h
    have HST : Hid (∀ (k : Nat) (x : DFoot), f.Feet[k]? = some x → fmTo f (k + 1) = fmStep (fmTo f k) x) := fun k x h => fmTo_step h
    have hT0 : fmTo f 0 = ⟨f.Syllables, 0, 0, 0⟩ := rfl
    obtain ⟨M, hMn⟩ := Int.eq_ofNat_of_zero_le g4
    obtain ⟨x0, hx0⟩ := HX.out 0 (by omega)
    obtain ⟨xm, hxm⟩ := HX.out M (by omega)
    have hE : fmE f = x0.From := by unfold fmE; rw [hx0]
    have hG : fmG f = f.Syllables - xm.From - xm.Size := by unfold fmG; rw [hMn, Int.toNat_natCast, hxm]
    have q0 := HAT.out 0 x0 hx0
    have qm := HAT.out M xm hxm
    have HFIN : Hid (∀ (w' : World) (B : Nat), w.heap.size ≤ B → InC w' B #[.int .i64 (fmTo f f.Feet.length).a, .int .i64 (fmTo f f.Feet.length).b, .int .i64 (fmTo f f.Feet.length).c, .int .i64 (fmTo f f.Feet.length).d, .int .i64 (fmE f), .int .i64 (fmG f)] 3 → Below w.heap.size w w' → OwnPost Rep.int (fmL f) w (.returned (.slice (some ⟨B, 0, none⟩) 6 6)) w') := fun w' B hb h1 h2 => by
      have e : fmL f = fmList (fmTo f f.Feet.length) (fmE f) (fmG f) := if_pos hft
      rw [e]
      have hok := HOK.out f.Feet.length
      refine ⟨_, rfl, RowRd.of_inC (l := fmList (fmTo f f.Feet.length) (fmE f) (fmG f)) h1 (by unfold maxLen fmList; simp) ?_ hb, h2⟩
      intro z hz
      unfold FMok at hok
      simp only [fmList, List.mem_cons, List.not_mem_nil, or_false] at hz
      unfold I64
      rcases hz with rfl | rfl | rfl | rfl | rfl | rfl <;> omega
    rw [hft] at HIS
    clear hft g3
    generalize hl : f.Feet.length = n at *
    have HL := Lib.hid hl
    clear hl hs
    obtain ⟨S, hS⟩ := Int.eq_ofNat_of_zero_le (show 0 ≤ f.Syllables by omega)
    rw [hS] at HIS HAT g1 g2 hG q0 qm hT0 ⊢
    rw [hMn] at HIS g5 ⊢
    rw [hE, hG] at HFIN
    generalize fmTo f = T at *
    generalize fmL f = L at *
    generalize f.Feet = l at *
    have hMl : M < n := by omega
    go_enter Tryd.func17, Tryd.ntmps17
    go_wp2_with fail
    refine (HIS.out _ ((Below.refl _ _).alloc (Nat.le_refl _) _)).mono ?_
    rintro e w1 ⟨rfl, hb1⟩
    have HIN : InC w1 w.heap.size #[.int .i64 (S : Int), .slice A n cap, .int .i64 (M : Int)] 31 := (hb1.block _ (by simp)).trans (heap_alloc_new _ _)
    have HB1 := Lib.hid (((Below.refl w.heap.size w).alloc (Nat.le_refl _) _).trans (hb1.mono (by simp)))
    have c0 := HIN.cell 0 rfl
    have c1 := HIN.cell 1 rfl
    have HINN := Lib.hid HIN
    obtain ⟨g, off, xs0, Fk0, hgA, _, hrd0, _, hc0⟩ := (HV.out.kept HB1.out).get hx0
    subst hgA
    clear hb1 HIN hc0 hrd0
    generalize hE0 : x0.From = E0 at *
    go_wp2
    clear c0 c1
    go_loopw [3, 4, 5, 6, 19] (fun va vb vc vd i wr => ∃ (k : Nat), k ≤ n ∧ i = .int .i64 k ∧ va = .int .i64 (T k).a ∧ vb = .int .i64 (T k).b ∧ vc = .int .i64 (T k).c ∧ vd = .int .i64 (T k).d ∧ Below w1.heap.size w1 wr) (fun _ _ _ _ i _ => n - (intOf i).toNat)
    case atStart => exact ⟨0, by omega, rfl, by rw [hT0], by rw [hT0], by rw [hT0], by rw [hT0], Below.refl _ _⟩
    case round =>
      obtain ⟨k, hk, rfl, rfl, rfl, rfl, rfl, hbe⟩ := hrel
      have HBE := Lib.hid hbe
      by_cases hkl : k < n
      · obtain ⟨x, hx⟩ := HX.out k hkl
        have hst := HST.out k x hx
        have hok := HOK.out k
        unfold FMok at hok
        obtain ⟨e1, e2, e3, e4, e5, e6⟩ := HAT.out k x hx
        obtain ⟨g2, off2, xs, Fk, hgA, _, hrd, _, hc⟩ := (HV.out.kept (HB1.out.trans (hbe.mono HB1.out.size))).get hx
        cases hgA
        obtain ⟨rfl, _, _, _⟩ := rFoot_rd hrd
        rw [rFoot_size] at hc
        have p0 := hc 0 _ rfl
        have p1 := hc 1 _ rfl
        have p2 := hc 2 _ rfl
        simp only [Nat.add_zero] at p0
        have hwr : IntKind.i64.wrap ((T k).a - x.Size) = (T k).a - x.Size := IntWalk.i64_in _ (by omega)
        have hwb : IntKind.i64.wrap ((T k).b + 1) = (T k).b + 1 := IntWalk.i64_in _ (by omega)
        have hwc : IntKind.i64.wrap ((T k).c + 1) = (T k).c + 1 := IntWalk.i64_in _ (by omega)
        have hwd : IntKind.i64.wrap ((T k).d + 1) = (T k).d + 1 := IntWalk.i64_in _ (by omega)
        clear hc hrd hx hbe
        by_cases h1 : x.Size = 1
        · have HS : Hid (T (k + 1) = ⟨(T k).a - 1, (T k).b + 1, (T k).c, (T k).d⟩) := by unfold Hid; rw [hst, fmStep, if_pos h1, h1]
          clear hst
          go_wp2
          go_roundw
          case rel => exact ⟨k + 1, by omega, by go_num, by rw [HS.out], by rw [HS.out], by rw [HS.out], by rw [HS.out], HBE.out.alloc HBE.out.size _⟩
          case measure => simp [intOf]; omega
        · by_cases h2 : x.Head = 1
          · have HS : Hid (T (k + 1) = ⟨(T k).a - x.Size, (T k).b, (T k).c + 1, (T k).d⟩) := by unfold Hid; rw [hst, fmStep, if_neg h1, if_pos h2]
            clear hst
            go_wp2
            go_roundw
            case rel => exact ⟨k + 1, by omega, by go_num, by rw [HS.out], by rw [HS.out], by rw [HS.out], by rw [HS.out], HBE.out.alloc HBE.out.size _⟩
            case measure => simp [intOf]; omega
          · have HS : Hid (T (k + 1) = ⟨(T k).a - x.Size, (T k).b, (T k).c, (T k).d + 1⟩) := by unfold Hid; rw [hst, fmStep, if_neg h1, if_neg h2]
            clear hst
            go_wp2
            go_roundw
            case rel => exact ⟨k + 1, by omega, by go_num, by rw [HS.out], by rw [HS.out], by rw [HS.out], by rw [HS.out], HBE.out.alloc HBE.out.size _⟩
            case measure => simp [intOf]; omega
      · obtain rfl : k = n := by omega
        have hin := HINN.out.kept hbe
        have b0 := hin.cell 0 rfl
        have b1 := hin.cell 1 rfl
        have b2 := hin.cell 2 rfl
        have HBW := Lib.hid (HB1.out.trans (hbe.mono HB1.out.size))
        obtain ⟨g2, off2, xs, Fk, hgA, _, hrd, _, hc⟩ := (HV.out.kept HBW.out).get hx0
        cases hgA
        obtain ⟨rfl, _, _, _⟩ := rFoot_rd hrd
        obtain ⟨g3, off3, xs3, Fk3, hgA, _, hrd3, _, hc3⟩ := (HV.out.kept HBW.out).get hxm
        cases hgA
        obtain ⟨rfl, _, _, _⟩ := rFoot_rd hrd3
        rw [rFoot_size] at hc hc3
        rw [hE0] at hc
        have p0 := hc 0 _ rfl
        have q0' := hc3 0 _ rfl
        have q1' := hc3 1 _ rfl
        have q2' := hc3 2 _ rfl
        simp only [Nat.add_zero, Nat.zero_mul] at p0 q0' q1' q2'
        have cb0 := fun d os => cell_regrown b0 d os
        have cb1 := fun d os => cell_regrown b1 d os
        have cb2 := fun d os => cell_regrown b2 d os
        have cp0 := fun d os => cell_regrown p0 d os
        have cq0 := fun d os => cell_regrown q0' d os
        have cq1 := fun d os => cell_regrown q1' d os
        have cq2 := fun d os => cell_regrown q2' d os
        have cE : ∀ d os, Calls Tryd.prog 34 #[.agg #[.int .i64 xm.From, .int .i64 xm.Size, .int .i64 xm.Head]] (grow (redrawn wr d) os) fun e w'' => e = .returned (.int .i64 (xm.From + xm.Size)) ∧ ∃ p : Regrown, w'' = grow (redrawn wr p.d) p.os :=
          fun d os => Calls.regrown_of (implEnd_any _ _ _ _ (by omega) (by omega) (by omega) (by omega))
        have hn0 : (0 : Int) < (k : Int) := by omega
        have hn0' : 0 < k := by omega
        have hMi : (M : Int) < (k : Int) := by omega
        have hwG : IntKind.i64.wrap ((S : Int) - (xm.From + xm.Size)) = (S : Int) - xm.From - xm.Size := by rw [IntWalk.i64_in _ (by omega)]; omega
        clear hin hbe hc hc3 hrd hrd3 b0 b1 b2 p0 q0' q1' q2' q0 qm hG hE hE0 hx0 hxm
        generalize xm.From = XF at *
        generalize xm.Size = XS at *
        generalize xm.Head = XH at *
        go_wp2
        refine wp_region_quiet_below (by kernel_rfl) (by kernel_rfl) ?_
        repeat (quiet_step (first | exact cE _ _))
        refine wpQuiet_nil ?_
        intro _ hw'
        obtain ⟨⟨dq, osq⟩, hw''⟩ := hw'
        subst hw''
        have hbq := Lib.hid (HBE.out.trans ((below_regrown wr dq osq).mono HBE.out.size))
        go_wp2
        go_ret
        refine HFIN.out _ _ (Nat.le_trans HB1.out.size (by simpa [grow] using hbq.out.size)) ?_ (HB1.out.trans ((hbq.out.alloc hbq.out.size _).mono HB1.out.size))
        rw [show (redrawn wr dq).heap.size + osq.size = (grow (redrawn wr dq) osq).heap.size by simp [grow]]
        exact heap_alloc_new _ _
  · have hft : isFt f = false := by simpa using hft
    have HE : Hid (fmL f = []) := by unfold Hid fmL; rw [if_neg (by simp [hft])]
    rw [hft] at HIS
    go_enter Tryd.func17, Tryd.ntmps17
    go_wp2_with fail
    refine (HIS.out _ ((Below.refl _ _).alloc (Nat.le_refl _) _)).mono ?_
    rintro e w1 ⟨rfl, hb1⟩
    have HB1 := Lib.hid (((Below.refl w.heap.size w).alloc (Nat.le_refl _) _).trans (hb1.mono (by simp)))
    clear hb1
    go_wp2
    go_ret
    exact ⟨_, rfl, by rw [HE.out]; exact RowRd.nil _ _ _, HB1.out⟩
end Go.Proofs.YtifmcbhgoncgjaaDoor
