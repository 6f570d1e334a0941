/- The model's ParseCandidate: the walk. -/
import Derived.Test.YtlekcnddejnejaaMk2a
import Derived.BigRegion
import Derived.StillTailTactics
namespace Go.Proofs.Ytlekcnddejnejaa
open Go.RowKit M
set_option linter.unusedVariables false
set_option linter.unusedSimpArgs false

/-- A block of two cells at the heap's end, whatever was drawn. -/
theorem inC_heap {w w' : World} {g : Nat} {cs : Array Value} {t : TypeId} (h : InC w g cs t) (e : w'.heap = w.heap) : InC w' g cs t := by unfold InC; rw [e]; exact h
theorem PSt.own_ne {w wr : World} {k : Nat} {ls : List DLink} {v : Value} (h : PSt w k ls v wr) : ∀ g, wr.heap.size ≤ g → v.ownBlock ≠ some g := fun g hg e => by
  have := (h.own.lt g e).2
  omega
theorem PSt.put {w wr : World} {k k2 : Nat} {ls l2 : List DLink} {v v2 : Value} (h : PSt w k ls v wr) {w2 : World} (hown : w2.ownsRow (w.heap.size + 2) 42 2 v2 l2.length (l2.flatMap lkC)) (hb : Below (w.heap.size + 2) wr w2) (hl : l2.length ≤ k2) : PSt w k2 l2 v2 (w2.setCell ⟨w.heap.size + 1, 0, none⟩ v2) :=
  ⟨own_set hown (Nat.lt_succ_self _) _, InC.other (h.res.keptB hb (by omega)) (by simp) _, (h.box.keptB hb (by omega)).put 0 v2, (h.bel.trans (hb.mono (by omega))).setCell (Nat.le_succ _) _, by have h1 := hb.size; have h2 := h.size; simp [World.setCell]; omega, hl⟩
theorem own_more {w : World} {base : Nat} {v : Value} {ls : List DLink} (x : DLink) (h : w.ownsRow base 42 2 v (ls.length + 1) (ls.flatMap lkC ++ [.int .u8 (x.In.toNat : Int), .int .u8 (x.Out.toNat : Int)])) : w.ownsRow base 42 2 v (ls ++ [x]).length ((ls ++ [x]).flatMap lkC) := by
  rw [List.length_append, lk_more]; exact h
theorem drew_below {B : Nat} {w w' : World} (h : Below B w w') : Below B w w'.drew := h.drew
set_option maxRecDepth 100000 in
set_option maxHeartbeats 16000000 in
theorem specParse_any (s : ByteArray) (w : World) (hs : s.size ≤ 1048576) :
    Calls Try.prog 28 #[.string s] w (CdPost (prL s.data.toList) (prB s.data.toList) w) := by
  have HP : Hid (∀ u w', RowRd rLink true w' u (prL s.data.toList) (fun a => w.heap.size ≤ a.block) → Below w.heap.size w w' → CdPost (prL s.data.toList) (prB s.data.toList) w (.returned (.tuple #[.agg #[u], .bool (prB s.data.toList)])) w') := fun u w' h1 h2 => ⟨u, rfl, h1, h2⟩
  have HNN : Hid (s.data.toList = noneB → prL s.data.toList = [] ∧ prB s.data.toList = true) := pr_none
  have HNI : Hid (s = ⟨#[110, 111, 110, 101]⟩ ↔ s.data.toList = noneB) := none_iff s
  have HBAD : Hid (¬ s.data.toList = noneB → rdM s.data.toList = none → prL s.data.toList = [] ∧ prB s.data.toList = false) := fun h1 h2 => pm_bad h1 h2
  have HYES : Hid (∀ ls, ¬ s.data.toList = noneB → rdM s.data.toList = some ls → fmtC ls = s.data.toList → s.data.toList ≠ [] → prL s.data.toList = ls ∧ prB s.data.toList = true) := fun ls h1 h2 h3 h4 => pm_yes h1 h2 h3 h4
  have HNO : Hid (∀ ls, ¬ s.data.toList = noneB → rdM s.data.toList = some ls → ¬ (fmtC ls = s.data.toList ∧ s.data.toList ≠ []) → prL s.data.toList = [] ∧ prB s.data.toList = false) := fun ls h1 h2 h3 => pm_no h1 h2 h3
  have HEQ : Hid (∀ l, (⟨(fmtC l).toArray⟩ : ByteArray) = s ↔ fmtC l = s.data.toList) := fun l => text_iff _ _
  generalize prL s.data.toList = r at *
  generalize prB s.data.toList = b at *
  have HS0 : Hid (PSt w 0 [] (.slice none 0 0) ((w.alloc (.cells #[.slice none 0 0] 29)).alloc (.cells #[.slice none 0 0] 29))) :=
    ⟨World.ownsRow_nil _ _ _ _, box1 _ _ _, box2 _ _ _, ((Below.refl _ _).alloc (Nat.le_refl _) _).alloc (by simp) _, by simp, Nat.le_refl _⟩
  go_enter Try.func28, Try.ntmps28
  go_wp2_with fail
  go_loopw [5] (fun i wr => ∃ (k : Nat) (ls : List DLink) (v : Value), k ≤ s.size ∧ i = .int .i64 k ∧ Hid (s.data.toList = noneB → k = 0 ∧ ls = []) ∧ Hid (Rd s k ls) ∧ PSt w k ls v wr) (fun i _ => s.size - (intOf i).toNat)
  case atStart => exact ⟨0, [], .slice none 0 0, by omega, rfl, fun _ => ⟨rfl, rfl⟩, Rd.zero s, HS0.out⟩
  case round =>
    obtain ⟨k, ls, v, hk, rfl, hnk, hrd, hst⟩ := hrel
    obtain ⟨A, cap, rfl⟩ := own_form hst.own
    have HST := Lib.hid hst
    have hll := hst.len
    have c1 := hst.box.cell 0 rfl
    have c1a : ∀ o, (wr.alloc o).cell? ⟨w.heap.size + 1, 0, none⟩ = some (.slice A ls.length cap) := fun o => (hst.box.kept ((Below.refl _ _).alloc (Nat.le_refl _) o)).cell 0 rfl
    have f1 := hst.box.free 0
    have x1 := hst.res.cell 0 rfl
    have y1 := hst.res.free 0
    clear hst
    by_cases hgo : k < s.size ∧ ¬ s = ⟨#[110, 111, 110, 101]⟩
    · obtain ⟨hkl, hn⟩ := hgo
      have hnn : ¬ s.data.toList = noneB := fun h => hn (HNI.out.2 h)
      have hq1 : (s.toList == [110, 111, 110, 101]) = false := by
        rw [Lib.toList_data]
        have h1 : ¬ s.data.toList = [110, 111, 110, 101] := hnn
        simpa using h1
      go_upto_region 5 with fail
      go_cut [6] (fun p wx => p = .pointer (some ⟨wr.heap.size, 0, none⟩) ∧ wx.heap = (wr.alloc (.cells #[.int .u8 (s[k].toNat : Int), .int .u8 (s[k].toNat : Int)] 42)).heap ∧ Below wr.heap.size wr wx)
      case first =>
        go_region
        all_goals
          go_wp2_with fail
          go_meet
          exact ⟨rfl, rfl, drew_below ((Below.refl _ _).alloc (Nat.le_refl _) _)⟩
      case rest =>
      obtain ⟨rfl, hwc, hbc⟩ := hcut
      have HNE : Hid ((Value.slice A ls.length cap).ownBlock ≠ some wr.heap.size) := HST.out.own_ne _ (Nat.le_refl _)
      have HXG : Hid (w.heap.size + 2 ≤ wr.heap.size) := HST.out.size
      have HSC := Lib.hid (HST.out.kept hbc)
      have HXC : Hid (InC wc wr.heap.size #[.int .u8 (s[k].toNat : Int), .int .u8 (s[k].toNat : Int)] 42) := inC_heap (heap_alloc_new wr _) hwc
      have HLN : Hid (ls.length ≤ 2000000) := by unfold Hid; omega
      have HRD := hrd
      clear hwc hbc c1 c1a f1 x1 y1 HST hrd
      have x0 := HXC.out.cell 0 rfl
      have x1 := HXC.out.cell 1 rfl
      have fx0 := HXC.out.free 0
      have fx1 := HXC.out.free 1
      have c1 := HSC.out.box.cell 0 rfl
      have f1 := HSC.out.box.free 0
      have r1 := HSC.out.res.cell 0 rfl
      have rf1 := HSC.out.res.free 0
      by_cases hsg : (s[k].toNat : Int) = 43 ∨ (s[k].toNat : Int) = 45 ∨ (s[k].toNat : Int) = 42
      case neg =>
        have hg43 : ¬ (s[k].toNat : Int) = 43 := fun h => hsg (Or.inl h)
        have hg45 : ¬ (s[k].toNat : Int) = 45 := fun h => hsg (Or.inr (Or.inl h))
        have hg42 : ¬ (s[k].toNat : Int) = 42 := fun h => hsg (Or.inr (Or.inr h))
        have q43 : ((s[k].toNat : Int) == 43) = false := by simpa using hg43
        have q45 : ((s[k].toNat : Int) == 45) = false := by simpa using hg45
        have q42 : ((s[k].toNat : Int) == 42) = false := by simpa using hg42
        have HPL := Lib.hid (HRD.out.plain hkl hg43 hg45 hg42)
        go_wp2_with (at_builtin; refine wpList_append_link wc rfl (.tmp 75) (.tmp 77) rfl (w.heap.size + 2) (.slice A ls.length cap) ls.length _ HSC.out.own (s[k].toNat : Int) (s[k].toNat : Int) _ (by simp) HLN.out HSC.out.size rfl rfl ?_; intro v' w2 h1 h2 h3; obtain ⟨A2, cap2, rfl⟩ := own_form h1; have HO2 := Lib.hid (own_more (ls := ls) (⟨s[k], s[k]⟩ : DLink) h1); have HB2 := Lib.hid h2; have hy2 := InC.keptB HSC.out.box h2 (by omega); have c2 := hy2.cell 0 rfl; have f2 := hy2.free 0; clear h1 h2 h3 hy2)
        go_roundw
        case rel => exact ⟨k + 1, ls ++ [(⟨s[k], s[k]⟩ : DLink)], .slice A2 (ls.length + 1) cap2, by omega, by go_num, fun h => absurd h hnn, HPL, HSC.out.put HO2.out HB2.out (by rw [List.length_append, List.length_singleton]; omega)⟩
        case measure => simp [intOf]; omega
      by_cases hk2 : k + 1 = s.size
      case pos =>
        obtain ⟨hr, hb⟩ := HBAD.out hnn (HRD.out.bad hkl hk2 hsg)
        subst hr hb
        have hk2' : (k : Int) + 1 = (s.size : Int) := by omega
        have HFIN : Hid (InC (wc.setCell ⟨w.heap.size, 0, none⟩ (.slice none 0 0)) w.heap.size #[.slice none 0 0] 29) := HSC.out.res.put 0 _
        rcases hsg with hc | hc | hc
        all_goals
          go_wp2_with fail
          (try simp only [Exit.inBlock, Exit.then])
          refine bodyPost_ret (results_cell_rt rfl _ _ w.heap.size _ _ _ _ rfl HFIN.out Try.underlying29 rfl infoCd1) rfl ?_
          exact HP.out _ _ (RowRd.nil _ _ _) (HSC.out.bel.setCell (Nat.le_refl _) _)
      have hk3 : k + 1 < s.size := by omega
      have hk3' : ¬ (k : Int) + 1 = (s.size : Int) := by omega
      have hb3 : ((k : Int) + 1 == (s.size : Int)) = false := by simpa using hk3'
      have HSG := Lib.hid (HRD.out.sign hk3 hsg)
      have hi0 : (0 : Int) ≤ (k : Int) + 1 := by omega
      have hi1 : (k : Int) + 1 < (s.size : Int) := by omega
      have hi2 : ((k : Int) + 1).toNat = k + 1 := by omega
      have hi3 : ¬ (k : Int) + 1 < 0 := by omega
      have HSD0 : Hid (PSt w k ls (.slice A ls.length cap) wc.drew) := HSC.out.kept (Below.refl _ _).drew
      have HXD0 : Hid (InC wc.drew wr.heap.size #[.int .u8 (s[k].toNat : Int), .int .u8 (s[k].toNat : Int)] 42) := HXC.out
      clear x0 x1 fx0 fx1 c1 f1 r1 rf1
      by_cases hc43 : (s[k].toNat : Int) = 43
      case pos =>
        have q43 : ((s[k].toNat : Int) == 43) = true := by rw [hc43]; rfl
        have q45 : ((s[k].toNat : Int) == 45) = false := by rw [hc43]; rfl
        have q42 : ((s[k].toNat : Int) == 42) = false := by rw [hc43]; rfl
        go_upto_region 11 with fail
        refine wp_region_still_tail 6 (by kernel_rfl) (by kernel_rfl) ?_
        simp only [List.take_succ_cons, List.take_zero, List.drop_succ_cons, List.drop_zero]
        have hE : ({ heap := wc.heap, tape := wc.tape, drawn := wc.drawn + 1, os := wc.os, output := wc.output } : World) = wc.drew := rfl
        rw [hE]
        clear hE HSC HXC
        generalize wc.drew = wd at *
        repeat still_step
        refine wpStill_nil ?_
        have h0 := HXD0.out
        have x0 := h0.cell 0 rfl
        have fx0 := h0.free 0
        have h1 := h0.put 0 (.int .u8 (s[k + 1].toNat : Int))
        have x1 := h1.cell 1 rfl
        have fx1 := h1.free 1
        have h2 := h1.put 1 (.int .u8 (s[k + 1].toNat : Int))
        have y0 := h2.cell 0 rfl
        have fy0 := h2.free 0
        have HRD0 := Lib.hid h2
        have h3 := h2.put 0 (.int .u8 0)
        have z0 := h3.cell 0 rfl
        have z1 := h3.cell 1 rfl
        have HSE : Hid (PSt w k ls (.slice A ls.length cap) (((wd.setCell ⟨wr.heap.size, 0, none⟩ (.int .u8 (s[k + 1].toNat : Int))).setCell ⟨wr.heap.size, 1, none⟩ (.int .u8 (s[k + 1].toNat : Int))).setCell ⟨wr.heap.size, 0, none⟩ (.int .u8 0))) := HSD0.out.touch ((((Touch.refl _ _).put _ _).put _ _).put _ _) h0 HXG.out HNE.out
        have z2 := HSE.out.box.cell 0 rfl
        have fz2 := HSE.out.box.free 0
        have HED : Hid (edL s[k + 1] s[k] = ⟨0, s[k + 1]⟩) := ed43 hc43
        rw [HED.out] at HSG
        clear h0 h1 h2 h3
        go_wp2_with (at_builtin; refine wpList_append_link (((wd.setCell ⟨wr.heap.size, 0, none⟩ (.int .u8 (s[k + 1].toNat : Int))).setCell ⟨wr.heap.size, 1, none⟩ (.int .u8 (s[k + 1].toNat : Int))).setCell ⟨wr.heap.size, 0, none⟩ (.int .u8 0)) rfl (.tmp 75) (.tmp 77) rfl (w.heap.size + 2) (.slice A ls.length cap) ls.length _ HSE.out.own 0 (s[k + 1].toNat : Int) _ (by simp) HLN.out HSE.out.size rfl rfl ?_; intro v' w2 h1 h2 h3; obtain ⟨A2, cap2, rfl⟩ := own_form h1; have HO2 := Lib.hid (own_more (ls := ls) (⟨0, s[k + 1]⟩ : DLink) h1); have HB2 := Lib.hid h2; have hy2 := InC.keptB HSE.out.box h2 (by omega); have c2 := hy2.cell 0 rfl; have f2 := hy2.free 0; clear h1 h2 h3 hy2)
        go_roundw
        case rel => exact ⟨k + 2, ls ++ [(⟨0, s[k + 1]⟩ : DLink)], .slice A2 (ls.length + 1) cap2, by omega, by go_num, fun h => absurd h hnn, HSG, HSE.out.put HO2.out HB2.out (by rw [List.length_append, List.length_singleton]; omega)⟩
        case measure => simp [intOf]; omega
      by_cases hc45 : (s[k].toNat : Int) = 45
      case pos =>
        have q43 : ((s[k].toNat : Int) == 43) = false := by rw [hc45]; rfl
        have q45 : ((s[k].toNat : Int) == 45) = true := by rw [hc45]; rfl
        have q42 : ((s[k].toNat : Int) == 42) = false := by rw [hc45]; rfl
        go_upto_region 11 with fail
        refine wp_region_still_tail 6 (by kernel_rfl) (by kernel_rfl) ?_
        simp only [List.take_succ_cons, List.take_zero, List.drop_succ_cons, List.drop_zero]
        have hE : ({ heap := wc.heap, tape := wc.tape, drawn := wc.drawn + 1, os := wc.os, output := wc.output } : World) = wc.drew := rfl
        rw [hE]
        clear hE HSC HXC
        generalize wc.drew = wd at *
        repeat still_step
        refine wpStill_nil ?_
        have h0 := HXD0.out
        have x0 := h0.cell 0 rfl
        have fx0 := h0.free 0
        have h1 := h0.put 0 (.int .u8 (s[k + 1].toNat : Int))
        have x1 := h1.cell 1 rfl
        have fx1 := h1.free 1
        have h2 := h1.put 1 (.int .u8 (s[k + 1].toNat : Int))
        have y1 := h2.cell 1 rfl
        have fy1 := h2.free 1
        have HRD0 := Lib.hid h2
        have h3 := h2.put 1 (.int .u8 0)
        have z0 := h3.cell 0 rfl
        have z1 := h3.cell 1 rfl
        have HSE : Hid (PSt w k ls (.slice A ls.length cap) (((wd.setCell ⟨wr.heap.size, 0, none⟩ (.int .u8 (s[k + 1].toNat : Int))).setCell ⟨wr.heap.size, 1, none⟩ (.int .u8 (s[k + 1].toNat : Int))).setCell ⟨wr.heap.size, 1, none⟩ (.int .u8 0))) := HSD0.out.touch ((((Touch.refl _ _).put _ _).put _ _).put _ _) h0 HXG.out HNE.out
        have z2 := HSE.out.box.cell 0 rfl
        have fz2 := HSE.out.box.free 0
        have HED : Hid (edL s[k + 1] s[k] = ⟨s[k + 1], 0⟩) := ed45 hc45
        rw [HED.out] at HSG
        clear h0 h1 h2 h3
        go_wp2_with (at_builtin; refine wpList_append_link (((wd.setCell ⟨wr.heap.size, 0, none⟩ (.int .u8 (s[k + 1].toNat : Int))).setCell ⟨wr.heap.size, 1, none⟩ (.int .u8 (s[k + 1].toNat : Int))).setCell ⟨wr.heap.size, 1, none⟩ (.int .u8 0)) rfl (.tmp 75) (.tmp 77) rfl (w.heap.size + 2) (.slice A ls.length cap) ls.length _ HSE.out.own (s[k + 1].toNat : Int) 0 _ (by simp) HLN.out HSE.out.size rfl rfl ?_; intro v' w2 h1 h2 h3; obtain ⟨A2, cap2, rfl⟩ := own_form h1; have HO2 := Lib.hid (own_more (ls := ls) (⟨s[k + 1], 0⟩ : DLink) h1); have HB2 := Lib.hid h2; have hy2 := InC.keptB HSE.out.box h2 (by omega); have c2 := hy2.cell 0 rfl; have f2 := hy2.free 0; clear h1 h2 h3 hy2)
        go_roundw
        case rel => exact ⟨k + 2, ls ++ [(⟨s[k + 1], 0⟩ : DLink)], .slice A2 (ls.length + 1) cap2, by omega, by go_num, fun h => absurd h hnn, HSG, HSE.out.put HO2.out HB2.out (by rw [List.length_append, List.length_singleton]; omega)⟩
        case measure => simp [intOf]; omega
      have hc42 : (s[k].toNat : Int) = 42 := (hsg.resolve_left hc43).resolve_left hc45
      have q43 : ((s[k].toNat : Int) == 43) = false := by rw [hc42]; rfl
      have q45 : ((s[k].toNat : Int) == 45) = false := by rw [hc42]; rfl
      have q42 : ((s[k].toNat : Int) == 42) = true := by rw [hc42]; rfl
      go_upto_region 11 with fail
      refine wp_region_still_tail 6 (by kernel_rfl) (by kernel_rfl) ?_
      simp only [List.take_succ_cons, List.take_zero, List.drop_succ_cons, List.drop_zero]
      have hE : ({ heap := wc.heap, tape := wc.tape, drawn := wc.drawn + 1, os := wc.os, output := wc.output } : World) = wc.drew := rfl
      rw [hE]
      clear hE HSC HXC
      generalize wc.drew = wd at *
      repeat still_step
      refine wpStill_nil ?_
      have h0 := HXD0.out
      have x0 := h0.cell 0 rfl
      have fx0 := h0.free 0
      have h1 := h0.put 0 (.int .u8 (s[k + 1].toNat : Int))
      have x1 := h1.cell 1 rfl
      have fx1 := h1.free 1
      have h2 := h1.put 1 (.int .u8 (s[k + 1].toNat : Int))
      have y1 := h2.cell 1 rfl
      have fy1 := h2.free 1
      have HRD0 := Lib.hid h2
      have h3 := h2.put 1 (.int .u8 (swapV (s[k + 1].toNat : Int)))
      have z0 := h3.cell 0 rfl
      have z1 := h3.cell 1 rfl
      have HSE : Hid (PSt w k ls (.slice A ls.length cap) (((wd.setCell ⟨wr.heap.size, 0, none⟩ (.int .u8 (s[k + 1].toNat : Int))).setCell ⟨wr.heap.size, 1, none⟩ (.int .u8 (s[k + 1].toNat : Int))).setCell ⟨wr.heap.size, 1, none⟩ (.int .u8 (swapV (s[k + 1].toNat : Int))))) := HSD0.out.touch ((((Touch.refl _ _).put _ _).put _ _).put _ _) h0 HXG.out HNE.out
      have z2 := HSE.out.box.cell 0 rfl
      have fz2 := HSE.out.box.free 0
      have HED : Hid (edL s[k + 1] s[k] = ⟨s[k + 1], byt (swapV (s[k + 1].toNat : Int))⟩) := ed42 hc42
      rw [HED.out] at HSG
      clear h0 h1 h2 h3
      have hsw := swapV_in (s[k + 1].toNat : Int) (u8_in _).1 (u8_in _).2
      have HSW : Hid (((byt (swapV (s[k + 1].toNat : Int))).toNat : Int) = swapV (s[k + 1].toNat : Int)) := byt_toNat _ hsw.1 hsw.2
      clear hsw
      go_wp2_with fail
      refine (specSwap_any _ _).mono ?_
      rintro e w9 ⟨rfl, rfl⟩
      go_wp2_with (at_builtin; refine wpList_append_link (((wd.setCell ⟨wr.heap.size, 0, none⟩ (.int .u8 (s[k + 1].toNat : Int))).setCell ⟨wr.heap.size, 1, none⟩ (.int .u8 (s[k + 1].toNat : Int))).setCell ⟨wr.heap.size, 1, none⟩ (.int .u8 (swapV (s[k + 1].toNat : Int)))) rfl (.tmp 75) (.tmp 77) rfl (w.heap.size + 2) (.slice A ls.length cap) ls.length _ HSE.out.own (s[k + 1].toNat : Int) (swapV (s[k + 1].toNat : Int)) _ (by simp) HLN.out HSE.out.size rfl rfl ?_; intro v' w2 h1 h2 h3; obtain ⟨A2, cap2, rfl⟩ := own_form h1; have HO2 := Lib.hid (own_more (ls := ls) (⟨s[k + 1], byt (swapV (s[k + 1].toNat : Int))⟩ : DLink) (by rw [show ((⟨s[k + 1], byt (swapV (s[k + 1].toNat : Int))⟩ : DLink).Out.toNat : Int) = swapV (s[k + 1].toNat : Int) from HSW.out]; exact h1)); have HB2 := Lib.hid h2; have hy2 := InC.keptB HSE.out.box h2 (by omega); have c2 := hy2.cell 0 rfl; have f2 := hy2.free 0; clear h1 h2 h3 hy2)
      go_roundw
      case rel => exact ⟨k + 2, ls ++ [(⟨s[k + 1], byt (swapV (s[k + 1].toNat : Int))⟩ : DLink)], .slice A2 (ls.length + 1) cap2, by omega, by go_num, fun h => absurd h hnn, HSG, HSE.out.put HO2.out HB2.out (by rw [List.length_append, List.length_singleton]; omega)⟩
      case measure => simp [intOf]; omega
    · by_cases hn : s = ⟨#[110, 111, 110, 101]⟩
      case pos =>
        obtain ⟨hr, hb⟩ := HNN.out (HNI.out.1 hn)
        obtain ⟨rfl, rfl⟩ := hnk.out (HNI.out.1 hn)
        subst hr hb hn
        have hft : (⟨(fmtC []).toArray⟩ : ByteArray) = ⟨#[110, 111, 110, 101]⟩ := by rw [fmt_nil]; rfl
        have HFT := Lib.hid (specFmt_cd ⟨([] : List DLink)⟩ _ _ wr (show (([] : List DLink)).length ≤ 1048576 from Nat.zero_le _) (own_links HST.out.own (Nat.zero_le _)).weak)
        go_wp2_with fail
        refine HFT.out.mono ?_
        rw [hft]
        rintro e w3 ⟨rfl, hb3⟩
        have hst3 := HST.out.kept hb3
        have x3 := hst3.res.cell 0 rfl
        have y3 := hst3.res.free 0
        have z3 := hst3.box.cell 0 rfl
        have HST3 := Lib.hid hst3
        have HROW3 : Hid (RowRd rLink true w3 (.slice A (([] : List DLink)).length cap) (([] : List DLink)) (fun a => w.heap.size + 2 ≤ a.block)) := own_links hst3.own (Nat.zero_le _)
        clear hb3 hst3 HFT
        go_wp2
        (try simp only [Exit.inBlock, Exit.then])
        refine bodyPost_ret (results_cell_rt rfl _ _ w.heap.size _ _ _ _ rfl (HST3.out.res.put 0 _) Try.underlying29 rfl infoCd1) rfl ?_
        exact HP.out _ _ ((HROW3.out.apart (Unch.set (F := fun a => a.block = w.heap.size) rfl _) (fun a ha => by have h1 : w.heap.size + 2 ≤ a.block := ha; show ¬ a.block = w.heap.size; omega)).mono (fun a ha => by have h1 : w.heap.size + 2 ≤ a.block := ha; omega)) (HST3.out.bel.setCell (Nat.le_refl _) _)
      have hnn : ¬ s.data.toList = noneB := fun h => hn (HNI.out.2 h)
      have hq1 : (s.toList == [110, 111, 110, 101]) = false := by
        rw [Lib.toList_data]
        have h1 : ¬ s.data.toList = [110, 111, 110, 101] := hnn
        simpa using h1
      obtain rfl : k = s.size := by
        by_cases h : k < s.size
        · exact absurd ⟨h, hn⟩ hgo
        · omega
      have HSOME := Lib.hid (hrd.out.all)
      have HFT := Lib.hid (specFmt_cd ⟨ls⟩ _ _ wr (show (ls).length ≤ 1048576 from by omega) (own_links HST.out.own (by omega)).weak)
      go_wp2_with fail
      refine HFT.out.mono ?_
      rintro e w3 ⟨rfl, hb3⟩
      have hst3 := HST.out.kept hb3
      have x3 := hst3.res.cell 0 rfl
      have y3 := hst3.res.free 0
      have z3 := hst3.box.cell 0 rfl
      have HST3 := Lib.hid hst3
      have HROW3 : Hid (RowRd rLink true w3 (.slice A (ls).length cap) (ls) (fun a => w.heap.size + 2 ≤ a.block)) := own_links hst3.own (by omega)
      clear hb3 hst3 HFT
      by_cases hf : fmtC ls = s.data.toList
      case neg =>
        obtain ⟨hr, hb⟩ := HNO.out ls hnn HSOME.out (fun h => hf h.1)
        subst hr hb
        have hS : ¬ (⟨(fmtC ls).toArray⟩ : ByteArray) = s := fun e => hf ((HEQ.out _).1 e)
        generalize (⟨(fmtC ls).toArray⟩ : ByteArray) = S at *
        have hq2 : (S.toList == s.toList) = false := toList_ne hS
        go_wp2
        (try simp only [Exit.inBlock, Exit.then])
        refine bodyPost_ret (results_cell_rt rfl _ _ w.heap.size _ _ _ _ rfl (HST3.out.res.put 0 _) Try.underlying29 rfl infoCd1) rfl ?_
        exact HP.out _ _ (RowRd.nil _ _ _) (HST3.out.bel.setCell (Nat.le_refl _) _)
      by_cases he : s.data.toList = []
      case pos =>
        obtain ⟨hr, hb⟩ := HNO.out ls hnn HSOME.out (fun h => h.2 he)
        have hS : (⟨(fmtC ls).toArray⟩ : ByteArray) = s := (HEQ.out _).2 hf
        rw [hS]
        subst hr hb
        have hq3 : s.toList.isEmpty = true := by rw [Lib.toList_data, he]; rfl
        go_wp2
        (try simp only [Exit.inBlock, Exit.then])
        refine bodyPost_ret (results_cell_rt rfl _ _ w.heap.size _ _ _ _ rfl (HST3.out.res.put 0 _) Try.underlying29 rfl infoCd1) rfl ?_
        exact HP.out _ _ (RowRd.nil _ _ _) (HST3.out.bel.setCell (Nat.le_refl _) _)
      obtain ⟨hr, hb⟩ := HYES.out ls hnn HSOME.out hf he
      have hS : (⟨(fmtC ls).toArray⟩ : ByteArray) = s := (HEQ.out _).2 hf
      rw [hS]
      have HR := Lib.hid hr
      subst hb
      have hq3 : s.toList.isEmpty = false := by
        rw [Lib.toList_data]
        cases h : s.data.toList with
        | nil => exact absurd h he
        | cons _ _ => rfl
      clear hr hf hS
      go_wp2
      (try simp only [Exit.inBlock, Exit.then])
      refine bodyPost_ret (results_cell_rt rfl _ _ w.heap.size _ _ _ _ rfl (HST3.out.res.put 0 _) Try.underlying29 rfl infoCd1) rfl ?_
      exact HP.out _ _ (by rw [HR.out]; exact (HROW3.out.apart (Unch.set (F := fun a => a.block = w.heap.size) rfl _) (fun a ha => by have h1 : w.heap.size + 2 ≤ a.block := ha; show ¬ a.block = w.heap.size; omega)).mono (fun a ha => by have h1 : w.heap.size + 2 ≤ a.block := ha; omega)) (HST3.out.bel.setCell (Nat.le_refl _) _)

end Go.Proofs.Ytlekcnddejnejaa
