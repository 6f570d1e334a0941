/- The model's FootMarks: what it answers. -/
import Derived.Test.YtifmcbhgoncgjaaDoorSf1
import Derived.BigRegion
import Derived.StillTailTactics
namespace Go.Proofs.YtifmcbhgoncgjaaDoor
open Go.RowKit Go.Sort
set_option linter.unusedVariables false
set_option linter.unusedSimpArgs false

structure FM where
  a : Int
  b : Int
  c : Int
  d : Int
def fmStep (t : FM) (x : DFoot) : FM :=
  if x.Size = 1 then ⟨t.a - x.Size, t.b + 1, t.c, t.d⟩ else if x.Head = 1 then ⟨t.a - x.Size, t.b, t.c + 1, t.d⟩ else ⟨t.a - x.Size, t.b, t.c, t.d + 1⟩
def fmTo (f : DFooting) : Nat → FM
  | 0 => ⟨f.Syllables, 0, 0, 0⟩
  | k + 1 => match f.Feet[k]? with
    | some x => fmStep (fmTo f k) x
    | none => fmTo f k
def fmE (f : DFooting) : Int := match f.Feet[0]? with
  | some x => x.From
  | none => 0
def fmG (f : DFooting) : Int := match f.Feet[f.Main.toNat]? with
  | some x => f.Syllables - x.From - x.Size
  | none => 0
def fmList (t : FM) (e g : Int) : List Int := [t.a, t.b, t.c, t.d, e, g]
def fmL (f : DFooting) : List Int := if isFt f = true then fmList (fmTo f f.Feet.length) (fmE f) (fmG f) else []
theorem fmTo_step {f : DFooting} {k : Nat} {x : DFoot} (h : f.Feet[k]? = some x) : fmTo f (k + 1) = fmStep (fmTo f k) x := by rw [fmTo, h]
def FMok (k : Nat) (t : FM) : Prop := -((k : Int) * 2) ≤ t.a ∧ t.a ≤ 6 ∧ 0 ≤ t.b ∧ t.b ≤ k ∧ 0 ≤ t.c ∧ t.c ≤ k ∧ 0 ≤ t.d ∧ t.d ≤ k
theorem fmTo_ok {f : DFooting} (hf : isFt f = true) : ∀ k, FMok k (fmTo f k)
  | 0 => by
    obtain ⟨g1, g2, _⟩ := isFt_iff.1 hf
    unfold FMok fmTo
    simp only
    omega
  | k + 1 => by
    obtain ⟨g1, g2, g3, _⟩ := isFt_iff.1 hf
    have ih := fmTo_ok hf k
    unfold fmTo
    split
    · rename_i x hx
      have := okFeet_at g3 (by omega) hx
      generalize fmTo f k = t at *
      unfold FMok at *
      unfold fmStep
      split
      · simp only; omega
      · split
        · simp only; omega
        · simp only; omega
    · unfold FMok at *
      omega
theorem fmL_len (f : DFooting) : (fmL f).length ≤ 6 := by
  unfold fmL
  split <;> simp [fmList]
set_option maxHeartbeats 4000000 in
theorem specFM_any (f : DFooting) (v1 : Value) (F : Addr → Prop) (w : World) (hm : f.Feet.length ≤ 1048576) (hs : I64 f.Syllables) (hmn : I64 f.Main) (hv : RowRd rFoot false w v1 f.Feet F) :
    Calls Tryd.prog 19 #[.agg #[.int .i64 f.Syllables, v1, .int .i64 f.Main]] w (OwnPost Rep.int (fmL f) w) := by
  have HIS : Hid (∀ W, Below w.heap.size w W → Calls Tryd.prog 22 #[.agg #[.int .i64 f.Syllables, v1, .int .i64 f.Main]] W fun e w' => e = .returned (.bool (isFt f)) ∧ Below W.heap.size W w') := fun W hW => specIsF_any f v1 F W hm hs hmn (hv.kept hW)
  obtain ⟨A, cap, rfl⟩ := hv.form
  have HV := Lib.hid hv
  have HX : Hid (∀ k, k < f.Feet.length → ∃ x, f.Feet[k]? = some x) := fun k hk => ⟨_, List.getElem?_eq_getElem hk⟩
  clear hv
  by_cases hft : isFt f = true
  · obtain ⟨g1, g2, g3, g4, g5⟩ := isFt_iff.1 hft
    have HOK := Lib.hid (fmTo_ok hft)
    have HAT : Hid (∀ (k : Nat) (x : DFoot), f.Feet[k]? = some x → 0 ≤ x.From ∧ 1 ≤ x.Size ∧ x.Size ≤ 2 ∧ x.From + x.Size ≤ f.Syllables ∧ 0 ≤ x.Head ∧ x.Head ≤ x.Size - 1) := fun k x h => okFeet_at g3 (by omega) h
    have HST : Hid (∀ (k : Nat) (x : DFoot), f.Feet[k]? = some x → fmTo f (k + 1) = fmStep (fmTo f k) x) := fun k x h => fmTo_step h
    have hT0 : fmTo f 0 = ⟨f.Syllables, 0, 0, 0⟩ := rfl
    obtain ⟨M, hMn⟩ := Int.eq_ofNat_of_zero_le g4
    obtain ⟨x0, hx0⟩ := HX.out 0 (by omega)
    obtain ⟨xm, hxm⟩ := HX.out M (by omega)
    have hE : fmE f = x0.From := by unfold fmE; rw [hx0]
    have hG : fmG f = f.Syllables - xm.From - xm.Size := by unfold fmG; rw [hMn, Int.toNat_natCast, hxm]
    have q0 := HAT.out 0 x0 hx0
    have qm := HAT.out M xm hxm
    have HFIN : Hid (∀ (w' : World) (B : Nat), w.heap.size ≤ B → InC w' B #[.int .i64 (fmTo f f.Feet.length).a, .int .i64 (fmTo f f.Feet.length).b, .int .i64 (fmTo f f.Feet.length).c, .int .i64 (fmTo f f.Feet.length).d, .int .i64 (fmE f), .int .i64 (fmG f)] 3 → Below w.heap.size w w' → OwnPost Rep.int (fmL f) w (.returned (.slice (some ⟨B, 0, none⟩) 6 6)) w') := fun w' B hb h1 h2 => by
      have e : fmL f = fmList (fmTo f f.Feet.length) (fmE f) (fmG f) := if_pos hft
      rw [e]
      have hok := HOK.out f.Feet.length
      refine ⟨_, rfl, RowRd.of_inC (l := fmList (fmTo f f.Feet.length) (fmE f) (fmG f)) h1 (by unfold maxLen fmList; simp) ?_ hb, h2⟩
      intro z hz
      unfold FMok at hok
      simp only [fmList, List.mem_cons, List.not_mem_nil, or_false] at hz
      unfold I64
      rcases hz with rfl | rfl | rfl | rfl | rfl | rfl <;> omega
    rw [hft] at HIS
    clear hft g3
    generalize hl : f.Feet.length = n at *
    have HL := Lib.hid hl
    clear hl hs
    obtain ⟨S, hS⟩ := Int.eq_ofNat_of_zero_le (show 0 ≤ f.Syllables by omega)
    rw [hS] at HIS HAT g1 g2 hG q0 qm hT0 ⊢
    rw [hMn] at HIS g5 ⊢
    rw [hE, hG] at HFIN
    generalize fmTo f = T at *
    generalize fmL f = L at *
    generalize f.Feet = l at *
    have hMl : M < n := by omega
    go_enter Tryd.func19, Tryd.ntmps19
    go_wp2_with fail
    refine (HIS.out _ ((Below.refl _ _).alloc (Nat.le_refl _) _)).mono ?_
    rintro e w1 ⟨rfl, hb1⟩
    have HIN : InC w1 w.heap.size #[.int .i64 (S : Int), .slice A n cap, .int .i64 (M : Int)] 31 := (hb1.block _ (by simp)).trans (heap_alloc_new _ _)
    have HB1 := Lib.hid (((Below.refl w.heap.size w).alloc (Nat.le_refl _) _).trans (hb1.mono (by simp)))
    have c0 := HIN.cell 0 rfl
    have c1 := HIN.cell 1 rfl
    have c2 := HIN.cell 2 rfl
    have HINN := Lib.hid HIN
    obtain ⟨g, off, xs0, Fk0, hgA, _, hrd0, _, hc0⟩ := (HV.out.kept HB1.out).get hx0
    subst hgA
    obtain ⟨g', off', xsm, Fkm, hgA, _, hrdm, _, hcm⟩ := (HV.out.kept HB1.out).get hxm
    cases hgA
    obtain ⟨rfl, _, _, _⟩ := rFoot_rd hrd0
    obtain ⟨rfl, _, _, _⟩ := rFoot_rd hrdm
    rw [rFoot_size] at hc0 hcm
    have p0 := hc0 0 _ rfl
    have p1 := hcm 0 _ rfl
    have p2 := hcm 1 _ rfl
    simp only [Nat.add_zero, Nat.zero_mul] at p0 p1 p2
    have hw1 : IntKind.i64.wrap ((S : Int) - xm.From) = (S : Int) - xm.From := IntWalk.i64_in _ (by omega)
    have hw2 : IntKind.i64.wrap ((S : Int) - xm.From - xm.Size) = (S : Int) - xm.From - xm.Size := IntWalk.i64_in _ (by omega)
    have hn0 : (0 : Int) < (n : Int) := by omega
    have hn0' : 0 < n := by omega
    have hMi : (M : Int) < (n : Int) := by omega
    clear hb1 HIN hc0 hcm hrd0 hrdm
    generalize x0.From = E0 at *
    generalize hGm : (S : Int) - xm.From - xm.Size = G0 at *
    go_wp2
    refine wp_region_still_tail 25 (by kernel_rfl) (by kernel_rfl) ?_
    simp only [List.take_succ_cons, List.take_zero, List.drop_succ_cons, List.drop_zero]
    have hE : ({ heap := w1.heap, tape := w1.tape, drawn := w1.drawn + 1, os := w1.os, output := w1.output } : World) = w1.drew := rfl
    rw [hE]
    clear hE
    repeat still_step
    refine wpStill_nil ?_
    go_wp2
    go_loopw [4] (fun i wr => ∃ (k : Nat), k ≤ n ∧ i = .int .i64 k ∧ InC wr w1.heap.size #[.int .i64 (T k).a, .int .i64 (T k).b, .int .i64 (T k).c, .int .i64 (T k).d, .int .i64 E0, .int .i64 G0] 3 ∧ Below w1.heap.size w1 wr) (fun i _ => n - (intOf i).toNat)
    case atStart => exact ⟨0, by omega, rfl, by rw [hT0]; exact heap_alloc_new _ _, (Below.refl _ _).drew.alloc (Nat.le_refl _) _⟩
    case round =>
      obtain ⟨k, hk, rfl, hinc, hbe⟩ := hrel
      have hin := HINN.out.kept hbe
      have b1 := hin.cell 1 rfl
      have HBE := Lib.hid hbe
      have HIC := Lib.hid hinc
      clear p0 p1 p2 c0 c1 c2
      by_cases hkl : k < n
      · obtain ⟨x, hx⟩ := HX.out k hkl
        have hst := HST.out k x hx
        have hok := HOK.out k
        unfold FMok at hok
        obtain ⟨e1, e2, e3, e4, e5, e6⟩ := HAT.out k x hx
        obtain ⟨g2, off2, xs, Fk, hgA, _, hrd, _, hc⟩ := (HV.out.kept (HB1.out.trans (hbe.mono HB1.out.size))).get hx
        cases hgA
        obtain ⟨rfl, _, _, _⟩ := rFoot_rd hrd
        rw [rFoot_size] at hc
        have p0 := hc 0 _ rfl
        have p1 := hc 1 _ rfl
        have p2 := hc 2 _ rfl
        simp only [Nat.add_zero] at p0
        have hia := hinc.kept (w' := wr.alloc (.cells #[.int .i64 x.From, .int .i64 x.Size, .int .i64 x.Head] 53)) ((Below.refl _ _).alloc (Nat.le_refl _) _)
        have d0 := hia.cell 0 rfl
        have f0 := hia.free 0
        have hwr : IntKind.i64.wrap ((T k).a - x.Size) = (T k).a - x.Size := IntWalk.i64_in _ (by omega)
        have hwb : IntKind.i64.wrap ((T k).b + 1) = (T k).b + 1 := IntWalk.i64_in _ (by omega)
        have hwc : IntKind.i64.wrap ((T k).c + 1) = (T k).c + 1 := IntWalk.i64_in _ (by omega)
        have hwd : IntKind.i64.wrap ((T k).d + 1) = (T k).d + 1 := IntWalk.i64_in _ (by omega)
        clear hc hrd hin hx hbe hinc
        go_wp2
        go_region
        have HI3 : Hid (InC (((wr.alloc (.cells #[.int .i64 x.From, .int .i64 x.Size, .int .i64 x.Head] 53)).setCell ⟨w1.heap.size, 0, none⟩ (.int .i64 ((T k).a - x.Size))).drew) w1.heap.size #[.int .i64 ((T k).a - x.Size), .int .i64 (T k).b, .int .i64 (T k).c, .int .i64 (T k).d, .int .i64 E0, .int .i64 G0] 3) := heap_setCell_same _ _ _ _ _ _ hia
        have HX3 : InC (((wr.alloc (.cells #[.int .i64 x.From, .int .i64 x.Size, .int .i64 x.Head] 53)).setCell ⟨w1.heap.size, 0, none⟩ (.int .i64 ((T k).a - x.Size))).drew) wr.heap.size #[.int .i64 x.From, .int .i64 x.Size, .int .i64 x.Head] 53 := InC.other (h := (heap_alloc_new _ _ : InC (wr.alloc (.cells #[.int .i64 x.From, .int .i64 x.Size, .int .i64 x.Head] 53)) wr.heap.size _ _)) (by have := HIC.out.lt; simp; omega) _
        have HB3 : Hid (Below w1.heap.size w1 (((wr.alloc (.cells #[.int .i64 x.From, .int .i64 x.Size, .int .i64 x.Head] 53)).setCell ⟨w1.heap.size, 0, none⟩ (.int .i64 ((T k).a - x.Size))).drew)) := ((HBE.out.alloc HBE.out.size _).setCell (p := ⟨w1.heap.size, 0, none⟩) (Nat.le_refl _) _).drew
        generalize (((wr.alloc (.cells #[.int .i64 x.From, .int .i64 x.Size, .int .i64 x.Head] 53)).setCell ⟨w1.heap.size, 0, none⟩ (.int .i64 ((T k).a - x.Size))).drew) = w3 at *
        have k1 := HX3.cell 1 rfl
        have k2 := HX3.cell 2 rfl
        have r1 := HI3.out.cell 1 rfl
        have r2 := HI3.out.cell 2 rfl
        have r3 := HI3.out.cell 3 rfl
        have s1 := HI3.out.free 1
        have s2 := HI3.out.free 2
        have s3 := HI3.out.free 3
        clear hia d0 f0 HX3
        by_cases h1 : x.Size = 1
        · have HS : Hid (T (k + 1) = ⟨(T k).a - x.Size, (T k).b + 1, (T k).c, (T k).d⟩) := by unfold Hid; rw [hst, fmStep, if_pos h1]
          clear hst
          go_wp2
          go_roundw
          case rel => exact ⟨k + 1, by omega, by go_num, by rw [HS.out]; exact heap_setCell_same _ _ _ _ _ _ HI3.out, HB3.out.setCell (p := ⟨w1.heap.size, 1, none⟩) (Nat.le_refl _) _⟩
          case measure => simp [intOf]; omega
        · by_cases h2 : x.Head = 1
          · have HS : Hid (T (k + 1) = ⟨(T k).a - x.Size, (T k).b, (T k).c + 1, (T k).d⟩) := by unfold Hid; rw [hst, fmStep, if_neg h1, if_pos h2]
            clear hst
            go_wp2
            go_roundw
            case rel => exact ⟨k + 1, by omega, by go_num, by rw [HS.out]; exact heap_setCell_same _ _ _ _ _ _ HI3.out, HB3.out.setCell (p := ⟨w1.heap.size, 2, none⟩) (Nat.le_refl _) _⟩
            case measure => simp [intOf]; omega
          · have HS : Hid (T (k + 1) = ⟨(T k).a - x.Size, (T k).b, (T k).c, (T k).d + 1⟩) := by unfold Hid; rw [hst, fmStep, if_neg h1, if_neg h2]
            clear hst
            go_wp2
            go_roundw
            case rel => exact ⟨k + 1, by omega, by go_num, by rw [HS.out]; exact heap_setCell_same _ _ _ _ _ _ HI3.out, HB3.out.setCell (p := ⟨w1.heap.size, 3, none⟩) (Nat.le_refl _) _⟩
            case measure => simp [intOf]; omega
      · obtain rfl : k = n := by omega
        go_wp2
        go_ret
        exact HFIN.out _ _ HB1.out.size HIC.out (HB1.out.trans (HBE.out.mono HB1.out.size))
  · have hft : isFt f = false := by simpa using hft
    have HE : Hid (fmL f = []) := by unfold Hid fmL; rw [if_neg (by simp [hft])]
    rw [hft] at HIS
    go_enter Tryd.func19, Tryd.ntmps19
    go_wp2_with fail
    refine (HIS.out _ ((Below.refl _ _).alloc (Nat.le_refl _) _)).mono ?_
    rintro e w1 ⟨rfl, hb1⟩
    have HB1 := Lib.hid (((Below.refl w.heap.size w).alloc (Nat.le_refl _) _).trans (hb1.mono (by simp)))
    clear hb1
    go_wp2
    go_ret
    exact ⟨_, rfl, by rw [HE.out]; exact RowRd.zero _ _ _ _ _, HB1.out.alloc HB1.out.size _⟩
end Go.Proofs.YtifmcbhgoncgjaaDoor
