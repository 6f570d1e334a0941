/- The four draws of footings. -/
import Derived.Test.YtifmcbhgoncgjaaDoorDf
import Derived.Test.YtifmcbhgoncgjaaDoorSf2
import Derived.Test.YtifmcbhgoncgjaaDoorRb
import Derived.Deep.RegionHeld3
namespace Go.Proofs.YtifmcbhgoncgjaaDoor
open Go.RowKit M
set_option linter.unusedVariables false
set_option linter.unusedSimpArgs false

def DFtPost (w : World) (e : Ending) (w' : World) : Prop := ∃ (f : DFooting) (u : Value), e = .returned (.agg #[.int .i64 f.Syllables, u, .int .i64 f.Main]) ∧ RowRd rFoot true w' u f.Feet (fun a => w.heap.size ≤ a.block) ∧ f.Feet.length ≤ 4 ∧ I64 f.Syllables ∧ I64 f.Main ∧ Below w.heap.size w w'
def DNumPost (w : World) (e : Ending) (w' : World) : Prop := ∃ n : Int, I64 n ∧ e = .returned (.int .i64 n) ∧ Below w.heap.size w w'
def DIntsPost (w : World) (e : Ending) (w' : World) : Prop := ∃ (s : List Int) (u : Value), e = .returned u ∧ RowRd Rep.int true w' u s (fun a => w.heap.size ≤ a.block) ∧ s.length ≤ 6 ∧ Below w.heap.size w w'
theorem drawFOf_ok (w : World) (A : Option Addr) (len cap : Nat) (hl : len ≤ 1048576) (hcode : CodeArg w A len) : Calls Tryd.prog 13 #[.slice A len cap] w (DNumPost w) := by
  go_enter Tryd.func13, Tryd.ntmps13
  go_wp2_with fail
  refine (new_ok w A len cap hl hcode).mono ?_
  rintro e w1 ⟨rfl, hc1, hb1⟩
  have HC1 := Lib.hid hc1
  have HB1 := Lib.hid hb1
  clear hc1 hb1
  go_wp2_with fail
  refine (below_ok _ _ A len cap 7 HC1.out (by omega) (by omega)).mono ?_
  rintro e w2 ⟨x, ⟨x0, x1⟩, rfl, hc2, hg2⟩
  have hw1 : IntKind.i64.wrap (x - 1) = x - 1 := IntWalk.i64_in _ (by omega)
  have HB2 := Lib.hid (below_of_new HB1.out hg2)
  clear hc2 hg2
  go_wp2
  go_ret
  exact ⟨x - 1, by unfold I64; omega, rfl, HB2.out⟩
theorem below_of_grown {w w1 w2 : World} {g : Nat} (h : Below w.heap.size w w1) (hg : w1.grownBy w2 (some g)) (hgl : w.heap.size ≤ g) : Below w.heap.size w w2 :=
  h.grown hg h.size (fun k hk => by have : g = k := by simpa using hk
                                    omega)
set_option maxHeartbeats 2000000 in
theorem drawMk_ok (w : World) (A : Option Addr) (len cap : Nat) (hl : len ≤ 1048576) (hcode : CodeArg w A len) : Calls Tryd.prog 16 #[.slice A len cap] w (DFtPost w) := by
  have hb0 : Below w.heap.size w (w.alloc (.cells #[.int .i64 0, .slice none 0 0, .int .i64 0] 31)) := (Below.refl _ _).alloc (Nat.le_refl _) _
  have HB0 := Lib.hid hb0
  have HCD := Lib.hid (hcode.below hb0)
  have HIN := Lib.hid (show InC (w.alloc (.cells #[.int .i64 0, .slice none 0 0, .int .i64 0] 31)) w.heap.size #[.int .i64 0, .slice none 0 0, .int .i64 0] 31 from heap_alloc_new _ _)
  have HS : Hid ((w.alloc (.cells #[.int .i64 0, .slice none 0 0, .int .i64 0] 31)).heap.size = w.heap.size + 1) := by simp [Hid]
  clear hb0 hcode
  go_enter Tryd.func16, Tryd.ntmps16
  go_wp2_with fail
  refine (new_ok _ A len cap hl HCD.out).mono ?_
  rintro e w1 ⟨rfl, hc1, hb1⟩
  rw [HS.out] at hc1
  have HC1 := Lib.hid hc1
  have HB1 := Lib.hid (HB0.out.trans (hb1.mono (by rw [HS.out]; omega)))
  have HIN1 := Lib.hid (HIN.out.kept hb1)
  have hs1 : w.heap.size + 1 ≤ w1.heap.size := by have := hb1.size; rw [HS.out] at this; exact this
  clear hc1 hb1
  go_wp2_with fail
  refine (l5Ft_ok _ _ A len cap HC1.out).mono ?_
  rintro e w2 ⟨f, u, rfl, hq, q4, i0, i2, hc2, hg2⟩
  obtain ⟨A2, c2, rfl⟩ := hq.form
  have hin2 := HIN1.out.grown hg2 (by omega)
  have e0 := hin2.cell 0 rfl
  have e1 := hin2.cell 1 rfl
  have e2 := hin2.cell 2 rfl
  have f0 := hin2.free 0
  have f1 := hin2.free 1
  have f2 := hin2.free 2
  have HB2 := Lib.hid (below_of_grown HB1.out hg2 (by omega))
  have HRES := Lib.hid (hin2.set3 (.int .i64 f.Syllables) (.slice A2 f.Feet.length c2) (.int .i64 f.Main))
  have HQ := Lib.hid (((hq.setOther ⟨w.heap.size, 0, none⟩ (fun a ha => by simp; omega) (.int .i64 f.Syllables)).setOther ⟨w.heap.size, 1, none⟩ (fun a ha => by simp; omega) (.slice A2 f.Feet.length c2)).setOther ⟨w.heap.size, 2, none⟩ (fun a ha => by simp; omega) (.int .i64 f.Main))
  have HBF := Lib.hid (((HB2.out.setCell (p := ⟨w.heap.size, 0, none⟩) (Nat.le_refl _) (.int .i64 f.Syllables)).setCell (p := ⟨w.heap.size, 1, none⟩) (Nat.le_refl _) (.slice A2 f.Feet.length c2)).setCell (p := ⟨w.heap.size, 2, none⟩) (Nat.le_refl _) (.int .i64 f.Main))
  have HI0 := Lib.hid i0
  have HI2 := Lib.hid i2
  have hs1' := hs1
  clear hq hc2 hg2 hin2 i0 i2
  go_wp2
  refine bodyPost_ret (results_cell_row rfl _ _ w.heap.size _ _ _ _ rfl HRES.out Tryd.underlying31 rfl infoFt31) rfl ?_
  exact ⟨f, _, rfl, HQ.out.mono (fun a ha => by omega), q4, HI0.out, HI2.out, HBF.out⟩
theorem CurOk.belowB {W W' : World} {g base : Nat} {A : Option Addr} {len cap : Nat} (h : CurOk W g A len cap) (hb : Below base W W') (hg : g < base) (hA : ∀ k, k < len → ∀ (b off : Nat), A = some ⟨b, off, none⟩ → b < base) : CurOk W' g A len cap := by
  obtain ⟨hl, ⟨i, q, hc⟩, hcode⟩ := h
  refine ⟨hl, ⟨i, q, (hb.block g hg).trans hc⟩, fun k hk => ?_⟩
  obtain ⟨b, off, z, hb', hbg, hbs, h0, h1, hcell⟩ := hcode k hk
  refine ⟨b, off, z, hb', hbg, Nat.lt_of_lt_of_le hbs hb.size, h0, h1, ?_⟩
  rw [World.cell?_of_block (w := W) (hb.block b (hA k hk b off hb'))]
  exact hcell
theorem some_ne {a b : Nat} (h : a ≠ b) : some a ≠ some b := fun e => h (by simpa using e)
theorem infoI64 : (Tryd.prog.info? 3).map (fun i => (i.zero, i.size, i.bytes)) = some (some (.int .i64 0), 1, 8) := by kernel_rfl
set_option maxHeartbeats 4000000 in
theorem drawFF_ok (w : World) (A : Option Addr) (len cap : Nat) (hl : len ≤ 1048576) (hcode : CodeArg w A len) : Calls Tryd.prog 6 #[.slice A len cap] w (DIntsPost w) := by
  have HCA : Hid (∀ k, k < len → ∀ (b off : Nat), A = some ⟨b, off, none⟩ → b < w.heap.size) := fun k hk b off hb => by
    obtain ⟨b', off', z, hb', hbs, _⟩ := hcode k hk
    rw [hb] at hb'
    cases hb'
    exact hbs
  obtain ⟨i1, hi, hz0, hz1, hz2⟩ := info_parts infoI64
  go_enter Tryd.func6, Tryd.ntmps6
  go_wp2_with fail
  refine (new_ok w A len cap hl hcode).mono ?_
  rintro e w1 ⟨rfl, hc1, hb1⟩
  have HC1 := Lib.hid hc1
  have HB1 := Lib.hid hb1
  have hs1 := hc1.lt
  clear hc1 hb1 hcode
  go_wp2_with fail
  refine (l5Ft_ok _ _ A len cap HC1.out).mono ?_
  rintro e w2 ⟨f, u, rfl, hq, q4, i0, i2, hc2, hg2⟩
  obtain ⟨A2, c2, rfl⟩ := hq.form
  have HB2 := Lib.hid (below_of_new HB1.out hg2)
  have hs2 := hg2.size
  have hba : Below w2.heap.size w2 (w2.alloc (.cells #[.int .i64 f.Syllables, .slice A2 f.Feet.length c2, .int .i64 f.Main] 31)) := (Below.refl _ _).alloc (Nat.le_refl _) _
  have HSTR := Lib.hid (specStr_any f _ _ (w2.alloc (.cells #[.int .i64 f.Syllables, .slice A2 f.Feet.length c2, .int .i64 f.Main] 31)) (by omega) i0 i2 (hq.kept hba).weak)
  have HBA := Lib.hid hba
  have HC2 := Lib.hid hc2
  have HLS := Lib.hid (strL_len f)
  generalize strL f = s at *
  clear hq hc2 hg2 hba i0 i2
  go_wp2_with fail
  refine HSTR.out.mono ?_
  rintro e w3 ⟨u3, rfl, hr3, hb3⟩
  obtain ⟨A3, c3, rfl⟩ := hr3.form
  have hb23 : Below w2.heap.size w2 w3 := HBA.out.trans (hb3.mono HBA.out.size)
  have HC3 := Lib.hid (HC2.out.below hb23)
  have HB3 := Lib.hid (HB2.out.trans (hb23.mono HB2.out.size))
  have HR3 := Lib.hid (hr3.tight.mono (G := fun a => w2.heap.size ≤ a.block ∧ a.block < w3.heap.size) fun a ha => ⟨Nat.le_trans HBA.out.size ha.1, ha.2⟩)
  have hs3 := hb23.size
  have hls := HLS.out
  clear hr3 hb3 hb23 HSTR HC2 HB2 HBA HC1 HB1
  by_cases hs0 : s.length = 0
  · have hsn : ¬ (0 : Int) < (s.length : Int) := by omega
    have hsn' : ¬ 0 < s.length := by omega
    clear HR3 HLS
    have hgb : w.heap.size < w3.heap.size := by omega
    have hba2 : Below w3.heap.size w3 (w3.alloc (.cells #[] 3)) := (Below.refl _ _).alloc (Nat.le_refl _) _
    have HBA2 := Lib.hid hba2
    have HC5 := Lib.hid (HC3.out.below hba2)
    have HO5 : Hid (OwnRd Rep.int 3 true w3.heap.size (w3.alloc (.cells #[] 3)) (.slice (some ⟨w3.heap.size, 0, none⟩) 0 0) ([] : List Int) (fun _ => False)) := OwnRd.empty w3 (Nat.le_refl _) _
    clear hba2
    go_wp2_with fail
    refine (below_ok _ _ A len cap 6 HC5.out (by omega) (by omega)).mono ?_
    rintro e w6 ⟨n, ⟨n0, n1⟩, rfl, hc6, hg6⟩
    have HO6 : Hid (OwnRd Rep.int 3 true w3.heap.size w6 (.slice (some ⟨w3.heap.size, 0, none⟩) 0 0) ([] : List Int) (fun _ => False)) := HO5.out.frame (fun k hk => hg6.block k (by have := (OwnRd.lt HO5.out k hk).2; omega) (some_ne (by have := (OwnRd.lt HO5.out k hk).1; omega))) (fun a ha => ha.elim) hg6.size
    have HB6 := Lib.hid (below_of_grown (HB3.out.trans (HBA2.out.mono HB3.out.size)) hg6 (Nat.le_refl _))
    have HC6 := Lib.hid hc6
    have hs6 : w3.heap.size ≤ w6.heap.size := Nat.le_trans HBA2.out.size hg6.size
    clear hc6 hg6 HO5 HC5 HBA2
    go_wp2
    go_loopw [6, 7] (fun v i wr => ∃ (l : List Int) (m : Nat), m ≤ 6 ∧ l.length + m ≤ 6 ∧ i = .int .i64 m ∧ OwnRd Rep.int 3 true w3.heap.size wr v l (fun _ => False) ∧ CurOk wr w.heap.size A len cap ∧ Below w.heap.size w wr ∧ w3.heap.size ≤ wr.heap.size) (fun _ i _ => (intOf i).toNat)
    case atStart => exact ⟨[], n.toNat, by omega, by simp; omega, by rw [show ((n.toNat : Nat) : Int) = n by omega], HO6.out, HC6.out, HB6.out, hs6⟩
    case round =>
      obtain ⟨l, m, hm, hlm, rfl, ho, hcr, hbr, hsr⟩ := hrel
      by_cases hm0 : 0 < m
      · have HO := Lib.hid ho
        have HCR := Lib.hid hcr
        have HBR := Lib.hid hbr
        clear ho hcr hbr
        go_wp2_with fail
        refine (below_ok _ _ A len cap 3 HCR.out (by omega) (by omega)).mono ?_
        rintro e w7 ⟨x, ⟨x0, x1⟩, rfl, hc7, hg7⟩
        have hs7 := hg7.size
        have HO7 := Lib.hid (HO.out.frame (w' := w7) (fun k hk => hg7.block k (OwnRd.lt HO.out k hk).2 (some_ne (by have := (OwnRd.lt HO.out k hk).1; omega))) (fun a ha => ha.elim) hg7.size)
        have HB7 := Lib.hid (below_of_grown HBR.out hg7 (Nat.le_refl _))
        have HC7 := Lib.hid hc7
        have HX7 : Hid (Rep.int.rd true w7 [.int .i64 x] x (fun _ => False)) := ⟨rfl, by unfold I64; omega⟩
        clear hc7 hg7
        go_wp2_with (at_builtin; refine Hid.out ?_)
        unfold Hid
        refine wpList_append_el Rep.int w7 rfl (.tmp 30) (.tmp 33) 24 3 i1 (.int .i64 0) 8 rfl Tryd.underlying24 hi hz0 hz1 hz2 rfl (by decide) true w3.heap.size _ l _ HO7.out rfl [.int .i64 x] x _ HX7.out (fun a ha => ha.elim) (fun _ a ha => ha.elim) rfl (fun u hu => by simp at hu; subst hu; rfl) (by omega) (by omega) (by omega) ?_
        intro v8 w8 hown8 hb8 hkeep8 hmv8
        have HO8 := Lib.hid (hown8.mono (G' := fun _ => False) (fun a ha => ha.elim id id))
        have HC8 := Lib.hid (HC7.out.belowB hb8 hgb (fun k hk b off hb => Nat.lt_trans (HCA.out k hk b off hb) hgb))
        have HB8 := Lib.hid (HB7.out.trans (hb8.mono (by omega)))
        have hs8 : w3.heap.size ≤ w8.heap.size := Nat.le_trans (Nat.le_trans hsr hs7) hb8.size
        clear hown8 hb8 hkeep8 hmv8
        go_wp2
        go_roundw
        case rel => exact ⟨l ++ [x], m - 1, by omega, by rw [List.length_append, List.length_singleton]; omega, by go_num, HO8.out, HC8.out, HB8.out, hs8⟩
        case measure => simp [intOf]; omega
      · have HO := Lib.hid ho
        have HBR := Lib.hid hbr
        clear ho hcr hbr
        obtain rfl : m = 0 := by omega
        go_wp2
        go_ret
        exact ⟨l, _, rfl, (OwnRd.row HO.out (by omega)).mono (fun a ha => by have := ha.resolve_right id; omega), by omega, HBR.out⟩
  · have hs0' : 0 < s.length := by omega
    have hs0i : (0 : Int) < (s.length : Int) := by omega
    go_wp2_with fail
    refine (once_ok _ _ A len cap 4 HC3.out (by omega) (by omega)).mono ?_
    rintro e w4 ⟨b, rfl, hc4, hg4⟩
    have HC4 := Lib.hid hc4
    have HB4 := Lib.hid (below_of_grown HB3.out hg4 (Nat.le_refl _))
    have HR4 := Lib.hid (HR3.out.grown hg4 (fun a ha => by omega))
    have hs4 := hg4.size
    clear hc4 hg4 HR3
    cases b with
    | false =>
      go_wp2
      go_ret
      exact ⟨s, _, rfl, HR4.out.mono (fun a ha => by omega), hls, HB4.out⟩
    | true =>
      clear HR4
      have hgb : w.heap.size < w4.heap.size := by omega
      have hba2 : Below w4.heap.size w4 (w4.alloc (.cells #[] 3)) := (Below.refl _ _).alloc (Nat.le_refl _) _
      have HBA2 := Lib.hid hba2
      have HC5 := Lib.hid (HC4.out.below hba2)
      have HO5 : Hid (OwnRd Rep.int 3 true w4.heap.size (w4.alloc (.cells #[] 3)) (.slice (some ⟨w4.heap.size, 0, none⟩) 0 0) ([] : List Int) (fun _ => False)) := OwnRd.empty w4 (Nat.le_refl _) _
      clear hba2
      go_wp2_with fail
      refine (below_ok _ _ A len cap 6 HC5.out (by omega) (by omega)).mono ?_
      rintro e w6 ⟨n, ⟨n0, n1⟩, rfl, hc6, hg6⟩
      have HO6 : Hid (OwnRd Rep.int 3 true w4.heap.size w6 (.slice (some ⟨w4.heap.size, 0, none⟩) 0 0) ([] : List Int) (fun _ => False)) := HO5.out.frame (fun k hk => hg6.block k (by have := (OwnRd.lt HO5.out k hk).2; omega) (some_ne (by have := (OwnRd.lt HO5.out k hk).1; omega))) (fun a ha => ha.elim) hg6.size
      have HB6 := Lib.hid (below_of_grown (HB4.out.trans (HBA2.out.mono HB4.out.size)) hg6 (Nat.le_refl _))
      have HC6 := Lib.hid hc6
      have hs6 : w4.heap.size ≤ w6.heap.size := Nat.le_trans HBA2.out.size hg6.size
      clear hc6 hg6 HO5 HC5 HBA2
      go_wp2
      go_loopw [6, 7] (fun v i wr => ∃ (l : List Int) (m : Nat), m ≤ 6 ∧ l.length + m ≤ 6 ∧ i = .int .i64 m ∧ OwnRd Rep.int 3 true w4.heap.size wr v l (fun _ => False) ∧ CurOk wr w.heap.size A len cap ∧ Below w.heap.size w wr ∧ w4.heap.size ≤ wr.heap.size) (fun _ i _ => (intOf i).toNat)
      case atStart => exact ⟨[], n.toNat, by omega, by simp; omega, by rw [show ((n.toNat : Nat) : Int) = n by omega], HO6.out, HC6.out, HB6.out, hs6⟩
      case round =>
        obtain ⟨l, m, hm, hlm, rfl, ho, hcr, hbr, hsr⟩ := hrel
        by_cases hm0 : 0 < m
        · have HO := Lib.hid ho
          have HCR := Lib.hid hcr
          have HBR := Lib.hid hbr
          clear ho hcr hbr
          go_wp2_with fail
          refine (below_ok _ _ A len cap 3 HCR.out (by omega) (by omega)).mono ?_
          rintro e w7 ⟨x, ⟨x0, x1⟩, rfl, hc7, hg7⟩
          have hs7 := hg7.size
          have HO7 := Lib.hid (HO.out.frame (w' := w7) (fun k hk => hg7.block k (OwnRd.lt HO.out k hk).2 (some_ne (by have := (OwnRd.lt HO.out k hk).1; omega))) (fun a ha => ha.elim) hg7.size)
          have HB7 := Lib.hid (below_of_grown HBR.out hg7 (Nat.le_refl _))
          have HC7 := Lib.hid hc7
          have HX7 : Hid (Rep.int.rd true w7 [.int .i64 x] x (fun _ => False)) := ⟨rfl, by unfold I64; omega⟩
          clear hc7 hg7
          go_wp2_with (at_builtin; refine Hid.out ?_)
          unfold Hid
          refine wpList_append_el Rep.int w7 rfl (.tmp 30) (.tmp 33) 24 3 i1 (.int .i64 0) 8 rfl Tryd.underlying24 hi hz0 hz1 hz2 rfl (by decide) true w4.heap.size _ l _ HO7.out rfl [.int .i64 x] x _ HX7.out (fun a ha => ha.elim) (fun _ a ha => ha.elim) rfl (fun u hu => by simp at hu; subst hu; rfl) (by omega) (by omega) (by omega) ?_
          intro v8 w8 hown8 hb8 hkeep8 hmv8
          have HO8 := Lib.hid (hown8.mono (G' := fun _ => False) (fun a ha => ha.elim id id))
          have HC8 := Lib.hid (HC7.out.belowB hb8 hgb (fun k hk b off hb => Nat.lt_trans (HCA.out k hk b off hb) hgb))
          have HB8 := Lib.hid (HB7.out.trans (hb8.mono (by omega)))
          have hs8 : w4.heap.size ≤ w8.heap.size := Nat.le_trans (Nat.le_trans hsr hs7) hb8.size
          clear hown8 hb8 hkeep8 hmv8
          go_wp2
          go_roundw
          case rel => exact ⟨l ++ [x], m - 1, by omega, by rw [List.length_append, List.length_singleton]; omega, by go_num, HO8.out, HC8.out, HB8.out, hs8⟩
          case measure => simp [intOf]; omega
        · have HO := Lib.hid ho
          have HBR := Lib.hid hbr
          clear ho hcr hbr
          obtain rfl : m = 0 := by omega
          go_wp2
          go_ret
          exact ⟨l, _, rfl, (OwnRd.row HO.out (by omega)).mono (fun a ha => by have := ha.resolve_right id; omega), by omega, HBR.out⟩
end Go.Proofs.YtifmcbhgoncgjaaDoor
