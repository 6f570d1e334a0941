/- The program's ComposeCandidates: what it answers. -/
import Derived.Test.YtfcmhbbeohhjmaaCq9
import Derived.Test.YtfcmhbbeohhjmaaIc5
import Derived.Lib.QuietBelow
namespace Go.Proofs.Ytfcmhbbeohhjmaa
set_option maxRecDepth 100000
open Go.RowKit Go.Sort M
set_option linter.unusedVariables false
set_option linter.unusedSimpArgs false
set_option maxRecDepth 100000

theorem text_of (a b : List UInt8) : ((⟨a.toArray⟩ : ByteArray) = ⟨b.toArray⟩) ↔ a = b := by
  constructor
  · intro h
    have h1 : a.toArray = b.toArray := by injection h
    have h2 := congrArg Array.toList h1
    simpa using h2
  · rintro rfl; rfl
theorem infoCd9 : (Try.prog.info? 29).map (·.size) = some 1 := by kernel_rfl
theorem pst_cells {w : World} {g : Nat} {u : Value} {l : List DLink} {w0 w1 : World} {b : Bool} (hrow : RowRd rLink true w1 u l (fun a => w0.heap.size ≤ a.block)) : True := trivial
set_option maxHeartbeats 1500000 in
theorem implCompose_any (x y : DCandidate) (A B : Option Addr) (ca cb : Nat) (F : Addr → Prop) (w : World) (hF : ∀ a, F a → a.block < w.heap.size) (hl : x.Links.length ≤ 1048576) (hm : y.Links.length ≤ 1048576) (hca : x.Links.length ≤ ca) (hcb : y.Links.length ≤ cb)
    (hv : RowRd rLink false w (.slice A x.Links.length ca) x.Links F) (hu : RowRd rLink false w (.slice B y.Links.length cb) y.Links F) :
    Calls Try.prog 23 #[.agg #[.slice A x.Links.length ca], .agg #[.slice B y.Links.length cb]] w (CdPost (compC x.Links y.Links) (compB x.Links y.Links) w) := by
  have HV := Lib.hid hv
  have HU := Lib.hid hu
  have HF := Lib.hid hF
  clear hv hu hF
  have IX : Hid (∀ W, Below w.heap.size w W → Calls Try.prog 38 #[.agg #[.slice A x.Links.length ca]] W fun e w' => e = .returned (.bool (isCd x.Links)) ∧ Below W.heap.size W w') := fun W hW => implIsCd_any x _ F W hl (HV.out.kept hW)
  have IY : Hid (∀ W, Below w.heap.size w W → Calls Try.prog 38 #[.agg #[.slice B y.Links.length cb]] W fun e w' => e = .returned (.bool (isCd y.Links)) ∧ Below W.heap.size W w') := fun W hW => implIsCd_any y _ F W hm (HU.out.kept hW)
  have OX : Hid (∀ W, Below w.heap.size w W → Calls Try.prog 42 #[.agg #[.slice A x.Links.length ca]] W fun e w' => e = .returned (.string ⟨(outS x.Links).toArray⟩) ∧ Below W.heap.size W w') := fun W hW => implOutput_any x _ F W hl (HV.out.kept hW)
  have OY : Hid (∀ W, Below w.heap.size w W → Calls Try.prog 43 #[.agg #[.slice B y.Links.length cb]] W fun e w' => e = .returned (.string ⟨(inS y.Links).toArray⟩) ∧ Below W.heap.size W w') := fun W hW => implInput_any y _ F W hm (HU.out.kept hW)
  have HCL : Hid (isCd x.Links = true → isCd y.Links = true → outL x.Links = inL y.Links → ∀ W, Below w.heap.size w W → Calls Try.prog 44 #[.slice A x.Links.length ca, .slice B y.Links.length cb] W (OwnPost rLink (compL x.Links y.Links) W)) := fun h1 h2 h3 W hW =>
    composeLinks_any x.Links y.Links A B ca cb F W (fun a ha => Nat.lt_of_lt_of_le (HF.out a ha) hW.size) (isCd_len h1) (isCd_len h2) hca hcb h3 (HV.out.kept hW) (HU.out.kept hW)
  have HCB : Hid (compB x.Links y.Links = (isCd x.Links && isCd y.Links && decide (outL x.Links = inL y.Links))) := rfl
  have HCC : Hid (compC x.Links y.Links = if compB x.Links y.Links then compL x.Links y.Links else []) := rfl
  have HOS : Hid (isCd x.Links = true → outS x.Links = outL x.Links) := fun h => by unfold outS; rw [if_pos h]
  have HIS : Hid (isCd y.Links = true → inS y.Links = inL y.Links) := fun h => by unfold inS; rw [if_pos h]
  have HP : Hid (∀ u w', RowRd rLink true w' u (compC x.Links y.Links) (fun a => w.heap.size ≤ a.block) → Below w.heap.size w w' → CdPost (compC x.Links y.Links) (compB x.Links y.Links) w (.returned (.tuple #[.agg #[u], .bool (compB x.Links y.Links)])) w') := fun u w' h1 h2 => ⟨u, rfl, h1, h2⟩
  generalize compC x.Links y.Links = r at *
  generalize compB x.Links y.Links = rb at *
  generalize hlx : x.Links.length = n at *
  generalize hly : y.Links.length = m at *
  generalize compL x.Links y.Links = cl at *
  clear hlx hly HV HU
  generalize isCd x.Links = cx at *
  generalize isCd y.Links = cy at *
  generalize outS x.Links = os at *
  generalize inS y.Links = is at *
  generalize outL x.Links = ol at *
  generalize inL y.Links = il at *
  -- the three boxes
  have HB3 : Hid (Below w.heap.size w (((w.alloc (.cells #[.slice A n ca] 29)).alloc (.cells #[.slice B m cb] 29)).alloc (.cells #[.slice none 0 0] 29))) := (((Below.refl _ _).alloc (Nat.le_refl _) _).alloc (by simp) _).alloc (by simp; omega) _
  have HX0 : Hid (InC (((w.alloc (.cells #[.slice A n ca] 29)).alloc (.cells #[.slice B m cb] 29)).alloc (.cells #[.slice none 0 0] 29)) w.heap.size #[.slice A n ca] 29) := (Below.heap_alloc _ _ _ (by simp; omega)).trans (box1 _ _ _)
  have HY0 : Hid (InC (((w.alloc (.cells #[.slice A n ca] 29)).alloc (.cells #[.slice B m cb] 29)).alloc (.cells #[.slice none 0 0] 29)) (w.heap.size + 1) #[.slice B m cb] 29) := (Below.heap_alloc _ _ _ (by simp)).trans (box2 _ _ _)
  have HR0 : Hid (InC (((w.alloc (.cells #[.slice A n ca] 29)).alloc (.cells #[.slice B m cb] 29)).alloc (.cells #[.slice none 0 0] 29)) (w.heap.size + 1 + 1) #[.slice none 0 0] 29) := by have := heap_alloc_new ((w.alloc (.cells #[.slice A n ca] 29)).alloc (.cells #[.slice B m cb] 29)) (.cells #[.slice none 0 0] 29); rwa [World.size_alloc, World.size_alloc] at this
  go_enter Try.func23, Try.ntmps23
  go_upto_region 1 with fail
  generalize hW : ((w.alloc (.cells #[.slice A n ca] 29)).alloc (.cells #[.slice B m cb] 29)).alloc (.cells #[.slice none 0 0] 29) = W at *
  clear hW
  have b0 := fun d os => cell_regrown (HX0.out.cell 0 rfl) d os
  have b1 := fun d os => cell_regrown (HY0.out.cell 0 rfl) d os
  have q1 : ∀ d os, Calls Try.prog 38 #[.agg #[.slice A n ca]] (grow (redrawn W d) os) fun e w'' => e = .returned (.bool cx) ∧ ∃ p : Regrown, w'' = grow (redrawn W p.d) p.os := fun d os => Calls.regrown_of (IX.out _ (HB3.out.trans ((below_regrown W d os).mono HB3.out.size)))
  have q2 : ∀ d os, Calls Try.prog 38 #[.agg #[.slice B m cb]] (grow (redrawn W d) os) fun e w'' => e = .returned (.bool cy) ∧ ∃ p : Regrown, w'' = grow (redrawn W p.d) p.os := fun d os => Calls.regrown_of (IY.out _ (HB3.out.trans ((below_regrown W d os).mono HB3.out.size)))
  have q3 : ∀ d os', Calls Try.prog 42 #[.agg #[.slice A n ca]] (grow (redrawn W d) os') fun e w'' => e = .returned (.string ⟨os.toArray⟩) ∧ ∃ p : Regrown, w'' = grow (redrawn W p.d) p.os := fun d os' => Calls.regrown_of (OX.out _ (HB3.out.trans ((below_regrown W d os').mono HB3.out.size)))
  have q4 : ∀ d os, Calls Try.prog 43 #[.agg #[.slice B m cb]] (grow (redrawn W d) os) fun e w'' => e = .returned (.string ⟨is.toArray⟩) ∧ ∃ p : Regrown, w'' = grow (redrawn W p.d) p.os := fun d os => Calls.regrown_of (OY.out _ (HB3.out.trans ((below_regrown W d os).mono HB3.out.size)))
  have HNO : Hid (rb = false → r = []) := fun h => by rw [HCC.out, h]; rfl
  by_cases hcx : cx = true
  case neg =>
    obtain rfl : cx = false := by simpa using hcx
    clear hcx
    have HRB : Hid (rb = false) := HCB.out
    refine wp_region_quiet_below (by kernel_rfl) (by kernel_rfl) ?_
    repeat (quiet_step (first | with_reducible exact q1 _ _ | with_reducible exact q2 _ _ | with_reducible exact q3 _ _ | with_reducible exact q4 _ _))
    refine wpQuiet_nil ?_
    intro _ hw'
    obtain ⟨⟨dq, osq⟩, hw''⟩ := hw'
    subst hw''
    have HB5 : Hid (Below w.heap.size w (grow (redrawn W dq) osq)) := HB3.out.trans ((below_regrown W dq osq).mono HB3.out.size)
    have HR5 : Hid (InC (grow (redrawn W dq) osq) (w.heap.size + 1 + 1) #[.slice none 0 0] 29) := HR0.out.kept (below_regrown W dq osq)
    clear q1 q2 q3 q4 b0 b1
    have r0 := HR5.out.cell 0 rfl
    have f0 := HR5.out.free 0
    generalize grow (redrawn W dq) osq = w5 at *
    go_wp2_with fail
    (try simp only [Exit.inBlock, Exit.then])
    refine bodyPost_ret (results_cell_rt rfl _ _ (w.heap.size + 1 + 1) _ _ _ _ rfl (HR5.out.put 0 _) Try.underlying29 rfl infoCd9) rfl ?_
    have hrb := HRB.out
    have hre := HNO.out hrb
    subst hrb
    subst hre
    exact HP.out _ _ (RowRd.nil _ _ _) (HB5.out.setCell (p := ⟨w.heap.size + 1 + 1, 0, none⟩) (by show w.heap.size ≤ w.heap.size + 1 + 1; omega) _)
  subst hcx
  by_cases hcy : cy = true
  case neg =>
    obtain rfl : cy = false := by simpa using hcy
    clear hcy
    have HRB : Hid (rb = false) := by unfold Hid; rw [HCB.out]; rfl
    refine wp_region_quiet_below (by kernel_rfl) (by kernel_rfl) ?_
    repeat (quiet_step (first | with_reducible exact q1 _ _ | with_reducible exact q2 _ _ | with_reducible exact q3 _ _ | with_reducible exact q4 _ _))
    refine wpQuiet_nil ?_
    intro _ hw'
    obtain ⟨⟨dq, osq⟩, hw''⟩ := hw'
    subst hw''
    have HB5 : Hid (Below w.heap.size w (grow (redrawn W dq) osq)) := HB3.out.trans ((below_regrown W dq osq).mono HB3.out.size)
    have HR5 : Hid (InC (grow (redrawn W dq) osq) (w.heap.size + 1 + 1) #[.slice none 0 0] 29) := HR0.out.kept (below_regrown W dq osq)
    clear q1 q2 q3 q4 b0 b1
    have r0 := HR5.out.cell 0 rfl
    have f0 := HR5.out.free 0
    generalize grow (redrawn W dq) osq = w5 at *
    go_wp2_with fail
    (try simp only [Exit.inBlock, Exit.then])
    refine bodyPost_ret (results_cell_rt rfl _ _ (w.heap.size + 1 + 1) _ _ _ _ rfl (HR5.out.put 0 _) Try.underlying29 rfl infoCd9) rfl ?_
    have hrb := HRB.out
    have hre := HNO.out hrb
    subst hrb
    subst hre
    exact HP.out _ _ (RowRd.nil _ _ _) (HB5.out.setCell (p := ⟨w.heap.size + 1 + 1, 0, none⟩) (by show w.heap.size ≤ w.heap.size + 1 + 1; omega) _)
  subst hcy
  have hos := HOS.out rfl
  have his := HIS.out rfl
  subst hos his
  by_cases hoi : os = is
  case neg =>
    have HRB : Hid (rb = false) := by unfold Hid; rw [HCB.out, decide_eq_false hoi]; rfl
    have hq2 : ((ByteArray.mk os.toArray).toList == (ByteArray.mk is.toArray).toList) = false := by
      rw [Lib.toList_data, Lib.toList_data]
      simpa using hoi
    generalize (⟨os.toArray⟩ : ByteArray) = s1 at *
    generalize (⟨is.toArray⟩ : ByteArray) = s2 at *
    refine wp_region_quiet_below (by kernel_rfl) (by kernel_rfl) ?_
    repeat (quiet_step (first | with_reducible exact q1 _ _ | with_reducible exact q2 _ _ | with_reducible exact q3 _ _ | with_reducible exact q4 _ _))
    refine wpQuiet_nil ?_
    intro _ hw'
    obtain ⟨⟨dq, osq⟩, hw''⟩ := hw'
    subst hw''
    have HB5 : Hid (Below w.heap.size w (grow (redrawn W dq) osq)) := HB3.out.trans ((below_regrown W dq osq).mono HB3.out.size)
    have HR5 : Hid (InC (grow (redrawn W dq) osq) (w.heap.size + 1 + 1) #[.slice none 0 0] 29) := HR0.out.kept (below_regrown W dq osq)
    clear q1 q2 q3 q4 b0 b1
    have r0 := HR5.out.cell 0 rfl
    have f0 := HR5.out.free 0
    generalize grow (redrawn W dq) osq = w5 at *
    go_wp2_with fail
    (try simp only [Exit.inBlock, Exit.then])
    refine bodyPost_ret (results_cell_rt rfl _ _ (w.heap.size + 1 + 1) _ _ _ _ rfl (HR5.out.put 0 _) Try.underlying29 rfl infoCd9) rfl ?_
    have hrb := HRB.out
    have hre := HNO.out hrb
    subst hrb
    subst hre
    exact HP.out _ _ (RowRd.nil _ _ _) (HB5.out.setCell (p := ⟨w.heap.size + 1 + 1, 0, none⟩) (by show w.heap.size ≤ w.heap.size + 1 + 1; omega) _)
  subst hoi
  have HRB : Hid (rb = true) := by unfold Hid; rw [HCB.out]; simp
  have HRC : Hid (r = cl) := by unfold Hid; rw [HCC.out, HRB.out]; rfl
  have hq2 : ((ByteArray.mk os.toArray).toList == (ByteArray.mk os.toArray).toList) = true := by simp
  generalize (⟨os.toArray⟩ : ByteArray) = s1 at *
  refine wp_region_quiet_below (by kernel_rfl) (by kernel_rfl) ?_
  repeat (quiet_step (first | with_reducible exact q1 _ _ | with_reducible exact q2 _ _ | with_reducible exact q3 _ _ | with_reducible exact q4 _ _))
  refine wpQuiet_nil ?_
  intro _ hw'
  obtain ⟨⟨dq, osq⟩, hw''⟩ := hw'
  subst hw''
  have HB5 : Hid (Below w.heap.size w (grow (redrawn W dq) osq)) := HB3.out.trans ((below_regrown W dq osq).mono HB3.out.size)
  have HR5 : Hid (InC (grow (redrawn W dq) osq) (w.heap.size + 1 + 1) #[.slice none 0 0] 29) := HR0.out.kept (below_regrown W dq osq)
  clear q1 q2 q3 q4 b0 b1
  have k0 := ((HX0.out.kept (below_regrown W dq osq))).cell 0 rfl
  have k1 := ((HY0.out.kept (below_regrown W dq osq))).cell 0 rfl
  go_wp2_with fail
  refine (HCL.out (by trivial) (by trivial) (by trivial) _ HB5.out).mono ?_
  rintro e w6 ⟨u, rfl, hrow, hb6⟩
  obtain ⟨A6, c6, rfl⟩ := hrow.form
  have HR6 := Lib.hid (HR5.out.kept hb6)
  have HB6 : Hid (Below w.heap.size w w6) := below_step HB5.out hb6
  have HQ6 : Hid (RowRd rLink true w6 (.slice A6 cl.length c6) cl (fun a => w.heap.size + 1 + 1 < a.block)) := hrow.mono fun a ha => by have h1 := HR5.out.lt; exact Nat.lt_of_lt_of_le h1 ha
  clear hb6 hrow
  have r0 := HR6.out.cell 0 rfl
  have f0 := HR6.out.free 0
  go_wp2_with fail
  (try simp only [Exit.inBlock, Exit.then])
  refine bodyPost_ret (results_cell_rt rfl _ _ (w.heap.size + 1 + 1) _ _ _ _ rfl (HR6.out.put 0 _) Try.underlying29 rfl infoCd9) rfl ?_
  have hrb := HRB.out
  have hre := HRC.out
  subst hrb
  subst hre
  exact HP.out _ _ ((HQ6.out.apart (Unch.set (F := fun a => a.block = w.heap.size + 1 + 1) rfl _) (fun a ha => by have h1 : w.heap.size + 1 + 1 < a.block := ha; show ¬ a.block = w.heap.size + 1 + 1; omega)).mono (fun a ha => by have h1 : w.heap.size + 1 + 1 < a.block := ha; omega)) (HB6.out.setCell (p := ⟨w.heap.size + 1 + 1, 0, none⟩) (by show w.heap.size ≤ w.heap.size + 1 + 1; omega) _)
end Go.Proofs.Ytfcmhbbeohhjmaa
