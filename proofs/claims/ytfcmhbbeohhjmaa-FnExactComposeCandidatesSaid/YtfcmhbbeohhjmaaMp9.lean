/- The model's ComposeCandidates: what it answers. -/
import Derived.Test.YtfcmhbbeohhjmaaMo9
import Derived.Test.YtfcmhbbeohhjmaaMc2
import Derived.Lib.QuietBelow
import Derived.BigRegion
import Derived.BigQuiet
import Derived.Deep.DeepCutAuto
namespace Go.Proofs.Ytfcmhbbeohhjmaa
set_option maxRecDepth 100000
open Go.RowKit Go.Sort M
set_option linter.unusedVariables false
set_option linter.unusedSimpArgs false
set_option maxRecDepth 100000

theorem textM (a b : List UInt8) : ((⟨a.toArray⟩ : ByteArray) = ⟨b.toArray⟩) ↔ a = b := by
  constructor
  · intro h
    have h1 : a.toArray = b.toArray := by injection h
    have h2 := congrArg Array.toList h1
    simpa using h2
  · rintro rfl; rfl
/-- Places of a row from one on. -/
theorem row_from {w : World} {A : Option Addr} {n : Nat} {l : List DLink} {F : Addr → Prop} (h : RowRd rLink false w (.slice A n n) l F) (k : Nat) (hk : k < l.length) :
    ∃ g off, A = some ⟨g, off, none⟩ ∧ RowRd rLink false w (.slice (some ⟨g, off + k * 2, none⟩) (l.length - k) (n - k)) (l.drop k) F := by
  have hm := h.max
  obtain ⟨g, off, _, _, rfl, _⟩ := h.get (List.getElem?_eq_getElem hk)
  refine ⟨g, off, rfl, ?_⟩
  obtain ⟨A', cap', Fk, hv, _, hr⟩ := h
  cases hv
  refine ⟨some ⟨g, off + k * 2, none⟩, l.length - k, fun j => Fk (k + j), by rw [List.length_drop], ⟨by rw [List.length_drop]; omega, fun h => by cases h⟩, fun j x hj => ?_⟩
  rw [List.getElem?_drop] at hj
  obtain ⟨g2, off2, xs, ha, h1, h2, h3, h4⟩ := hr (k + j) x hj
  cases ha
  refine ⟨g, off + k * 2, xs, rfl, h1, h2, fun i u hi => ?_, fun h => by cases h⟩
  have h5 := h3 i u hi
  rw [rLink_size] at *
  have e : off + (k + j) * 2 + i = off + k * 2 + j * 2 + i := by omega
  rw [e] at h5
  exact ⟨h5.1, h5.2.1, fun h => by cases h⟩
theorem OwnL.one {base : Nat} {w : World} {A : Option Addr} {c : Nat} {acc : List DLink} {z : DLink} (h : OwnL base w (.slice A (acc ++ [z]).length c) (acc ++ [z])) : OwnL base w (.slice A (acc.length + 1) c) (acc ++ [z]) := by
  rw [List.length_append] at h; exact h
structure MS (w : World) (g : Nat) (va vb : Value) (acc : List DLink) (v : Value) (wr : World) : Prop where
  own : OwnL (g + 1) wr v acc
  ba : InC wr w.heap.size #[va] 29
  bb : InC wr (w.heap.size + 1) #[vb] 29
  br : InC wr (w.heap.size + 1 + 1) #[.slice none 0 0] 29
  bo : InC wr g #[v] 29
  bel : Below w.heap.size w wr
  lo : w.heap.size + 3 ≤ g
  size : g + 1 ≤ wr.heap.size
section
variable {w wr w' : World} {g : Nat} {va vb v : Value} {acc : List DLink}
theorem MS.kept (h : MS w g va vb acc v wr) (hb : Below wr.heap.size wr w') : MS w g va vb acc v w' :=
  ⟨h.own.kept hb, h.ba.kept hb, h.bb.kept hb, h.br.kept hb, h.bo.kept hb, below_step h.bel hb, h.lo, Nat.le_trans h.size hb.size⟩
theorem MS.put (h : MS w g va vb acc v wr) {v2 : Value} {acc2 : List DLink} (hown : OwnL (g + 1) w' v2 acc2) (hb : Below (g + 1) wr w') : MS w g va vb acc2 v2 (w'.setCell ⟨g, 0, none⟩ v2) := by
  have h0 := h.lo
  have h1 := h.size
  have h2 := hb.size
  exact ⟨hown.set (Nat.lt_succ_self _) _, InC.other (h.ba.keptB hb (by omega)) (by simp; omega) _, InC.other (h.bb.keptB hb (by omega)) (by simp; omega) _, InC.other (h.br.keptB hb (by omega)) (by simp; omega) _,
    (h.bo.keptB hb (by omega)).put 0 v2, (h.bel.trans (hb.mono (by omega))).setCell (p := ⟨g, 0, none⟩) (by show w.heap.size ≤ g; omega) _, h0, by simp [World.setCell]; omega⟩
end
/-- Where composing stands: so many links of each have been read. -/
structure MC (r l m : List DLink) (i k : Nat) (acc : List DLink) : Prop where
  eq : acc ++ compL (l.drop i) (m.drop k) = r
  io : outL (l.drop i) = inL (m.drop k)
  il : i ≤ l.length
  kl : k ≤ m.length
  sz : acc.length ≤ i + k
theorem MC.zero {l m : List DLink} (h : outL l = inL m) : MC (compL l m) l m 0 0 [] := ⟨rfl, h, Nat.zero_le _, Nat.zero_le _, Nat.zero_le _⟩
section
variable {r l m acc : List DLink} {i k : Nat} {x y : DLink}
theorem drop_get {l : List DLink} {i : Nat} {x : DLink} (h : l[i]? = some x) : l.drop i = x :: l.drop (i + 1) := by
  obtain ⟨hl, rfl⟩ := List.getElem?_eq_some_iff.1 h
  exact List.drop_eq_getElem_cons hl
theorem MC.away (h : MC r l m i k acc) (hx : l[i]? = some x) (h0 : x.Out = 0) : MC r l m (i + 1) k (acc ++ [x]) := by
  have h1 := h.eq
  have h2 := h.io
  rw [drop_get hx] at h1 h2
  rw [comp_away h0] at h1
  rw [outL_cons, if_pos h0] at h2
  exact ⟨by rw [← h1]; simp, h2, (List.getElem?_eq_some_iff.1 hx).1, h.kl, by have := h.sz; simp; omega⟩
/-- A link that keeps or puts in a sound: the other candidate has one more. -/
theorem MC.more (h : MC r l m i k acc) (hx : l[i]? = some x) (h0 : ¬ x.Out = 0) : k < m.length := by
  have h2 := h.io
  rw [drop_get hx, outL_cons, if_neg h0] at h2
  rcases Nat.lt_or_ge k m.length with h3 | h3
  · exact h3
  · rw [List.drop_eq_nil_of_le h3] at h2; cases h2
theorem MC.putin (h : MC r l m i k acc) (hx : l[i]? = some x) (h0 : ¬ x.Out = 0) (hy : m[k]? = some y) (h1 : y.In = 0) : MC r l m i (k + 1) (acc ++ [y]) := by
  have h3 := h.eq
  have h4 := h.io
  rw [drop_get hx, drop_get hy] at h3 h4
  rw [comp_put h0 h1] at h3
  rw [inL_cons, if_pos h1] at h4
  exact ⟨by rw [← h3, drop_get hx]; simp, by rw [drop_get hx]; exact h4, h.il, (List.getElem?_eq_some_iff.1 hy).1, by have := h.sz; simp; omega⟩
theorem MC.both (h : MC r l m i k acc) (hx : l[i]? = some x) (h0 : ¬ x.Out = 0) (hy : m[k]? = some y) (h1 : ¬ y.In = 0) (hz : ¬ (x.In = 0 ∧ y.Out = 0)) : MC r l m (i + 1) (k + 1) (acc ++ [⟨x.In, y.Out⟩]) := by
  have h3 := h.eq
  have h4 := h.io
  rw [drop_get hx, drop_get hy] at h3 h4
  rw [comp_both h0 h1 hz] at h3
  rw [outL_cons, if_neg h0, inL_cons, if_neg h1] at h4
  injection h4 with h5 h6
  exact ⟨by rw [← h3]; simp, h6, (List.getElem?_eq_some_iff.1 hx).1, (List.getElem?_eq_some_iff.1 hy).1, by have := h.sz; simp; omega⟩
theorem MC.none (h : MC r l m i k acc) (hx : l[i]? = some x) (h0 : ¬ x.Out = 0) (hy : m[k]? = some y) (h1 : ¬ y.In = 0) (hz : x.In = 0 ∧ y.Out = 0) : MC r l m (i + 1) (k + 1) acc := by
  have h3 := h.eq
  have h4 := h.io
  rw [drop_get hx, drop_get hy] at h3 h4
  rw [comp_none h0 h1 hz] at h3
  rw [outL_cons, if_neg h0, inL_cons, if_neg h1] at h4
  injection h4 with h5 h6
  exact ⟨h3, h6, (List.getElem?_eq_some_iff.1 hx).1, (List.getElem?_eq_some_iff.1 hy).1, by have := h.sz; omega⟩
theorem MC.fin (h : MC r l m l.length k acc) : acc ++ m.drop k = r := by
  have h1 := h.eq
  rw [List.drop_length, comp_nil] at h1
  exact h1
end
theorem infoCdM : (Try.prog.info? 29).map (·.size) = some 1 := by kernel_rfl
theorem inC_heapM {w w' : World} {g : Nat} {cs : Array Value} {t : TypeId} (h : InC w g cs t) (e : w'.heap = w.heap) : InC w' g cs t := by unfold InC; rw [e]; exact h
set_option maxHeartbeats 8000000 in
theorem specCompose_any (x y : DCandidate) (A B : Option Addr) (F : Addr → Prop) (w : World) (hF : ∀ a, F a → a.block < w.heap.size) (hl : x.Links.length ≤ 1048576) (hm : y.Links.length ≤ 1048576) 
    (hv : RowRd rLink false w (.slice A x.Links.length x.Links.length) x.Links F) (hu : RowRd rLink false w (.slice B y.Links.length y.Links.length) y.Links F) :
    Calls Try.prog 22 #[.agg #[.slice A x.Links.length x.Links.length], .agg #[.slice B y.Links.length y.Links.length]] w (CdPost (compC x.Links y.Links) (compB x.Links y.Links) w) := by
  have HV := Lib.hid hv
  have HU := Lib.hid hu
  have HF := Lib.hid hF
  clear hv hu hF
  have IX : Hid (∀ W, Below w.heap.size w W → Calls Try.prog 27 #[.agg #[.slice A x.Links.length x.Links.length]] W fun e w' => e = .returned (.bool (isCd x.Links)) ∧ Below W.heap.size W w') := fun W hW => specIsCd_any x _ F W hl (HV.out.kept hW)
  have IY : Hid (∀ W, Below w.heap.size w W → Calls Try.prog 27 #[.agg #[.slice B y.Links.length y.Links.length]] W fun e w' => e = .returned (.bool (isCd y.Links)) ∧ Below W.heap.size W w') := fun W hW => specIsCd_any y _ F W hm (HU.out.kept hW)
  have OX : Hid (∀ W, Below w.heap.size w W → Calls Try.prog 40 #[.agg #[.slice A x.Links.length x.Links.length]] W fun e w' => e = .returned (.string ⟨(outS x.Links).toArray⟩) ∧ Below W.heap.size W w') := fun W hW => specOutput_any x _ F W hl (HV.out.kept hW)
  have OY : Hid (∀ W, Below w.heap.size w W → Calls Try.prog 41 #[.agg #[.slice B y.Links.length y.Links.length]] W fun e w' => e = .returned (.string ⟨(inS y.Links).toArray⟩) ∧ Below W.heap.size W w') := fun W hW => specInput_any y _ F W hm (HU.out.kept hW)
  have HMC : Hid (outL x.Links = inL y.Links → MC (compL x.Links y.Links) x.Links y.Links 0 0 []) := fun h => MC.zero h
  have HVC : Hid (isCd x.Links = true → isCd y.Links = true → outL x.Links = inL y.Links → isCd (compL x.Links y.Links) = true) := fun h1 h2 h3 => comp_valid h1 h2 h3
  have HLX : Hid (isCd x.Links = true → x.Links.length ≤ 16) := isCd_len
  have HLY : Hid (isCd y.Links = true → y.Links.length ≤ 16) := isCd_len
  have HCB : Hid (compB x.Links y.Links = (isCd x.Links && isCd y.Links && decide (outL x.Links = inL y.Links))) := rfl
  have HCC : Hid (compC x.Links y.Links = if compB x.Links y.Links then compL x.Links y.Links else []) := rfl
  have HOS : Hid (isCd x.Links = true → outS x.Links = outL x.Links) := fun h => by unfold outS; rw [if_pos h]
  have HIS : Hid (isCd y.Links = true → inS y.Links = inL y.Links) := fun h => by unfold inS; rw [if_pos h]
  have HP : Hid (∀ u w', RowRd rLink true w' u (compC x.Links y.Links) (fun a => w.heap.size ≤ a.block) → Below w.heap.size w w' → CdPost (compC x.Links y.Links) (compB x.Links y.Links) w (.returned (.tuple #[.agg #[u], .bool (compB x.Links y.Links)])) w') := fun u w' h1 h2 => ⟨u, rfl, h1, h2⟩
  generalize compC x.Links y.Links = r at *
  generalize compB x.Links y.Links = rb at *
  generalize hlx : x.Links.length = n at *
  generalize hly : y.Links.length = m at *
  generalize compL x.Links y.Links = cl at *
  have HXN : Hid (∀ k, k < n → ∃ z, x.Links[k]? = some z) := fun k hk => ⟨_, List.getElem?_eq_getElem (by omega)⟩
  have HYN : Hid (∀ k, k < m → ∃ z, y.Links[k]? = some z) := fun k hk => ⟨_, List.getElem?_eq_getElem (by omega)⟩
  have HLN := Lib.hid hlx
  have HLM := Lib.hid hly
  clear hlx hly
  generalize isCd x.Links = cx at *
  generalize isCd y.Links = cy at *
  generalize outS x.Links = os at *
  generalize inS y.Links = is at *
  generalize outL x.Links = ol at *
  generalize inL y.Links = il at *
  -- the three boxes
  have HB3 : Hid (Below w.heap.size w (((w.alloc (.cells #[.slice A n n] 29)).alloc (.cells #[.slice B m m] 29)).alloc (.cells #[.slice none 0 0] 29))) := (((Below.refl _ _).alloc (Nat.le_refl _) _).alloc (by simp) _).alloc (by simp; omega) _
  have HX0 : Hid (InC (((w.alloc (.cells #[.slice A n n] 29)).alloc (.cells #[.slice B m m] 29)).alloc (.cells #[.slice none 0 0] 29)) w.heap.size #[.slice A n n] 29) := (Below.heap_alloc _ _ _ (by simp; omega)).trans (box1 _ _ _)
  have HY0 : Hid (InC (((w.alloc (.cells #[.slice A n n] 29)).alloc (.cells #[.slice B m m] 29)).alloc (.cells #[.slice none 0 0] 29)) (w.heap.size + 1) #[.slice B m m] 29) := (Below.heap_alloc _ _ _ (by simp)).trans (box2 _ _ _)
  have HR0 : Hid (InC (((w.alloc (.cells #[.slice A n n] 29)).alloc (.cells #[.slice B m m] 29)).alloc (.cells #[.slice none 0 0] 29)) (w.heap.size + 1 + 1) #[.slice none 0 0] 29) := by have := heap_alloc_new ((w.alloc (.cells #[.slice A n n] 29)).alloc (.cells #[.slice B m m] 29)) (.cells #[.slice none 0 0] 29); rwa [World.size_alloc, World.size_alloc] at this
  go_enter Try.func22, Try.ntmps22
  go_upto_region 1 with fail
  generalize hW : ((w.alloc (.cells #[.slice A n n] 29)).alloc (.cells #[.slice B m m] 29)).alloc (.cells #[.slice none 0 0] 29) = W at *
  clear hW
  have b0 := fun d os => cell_regrown (HX0.out.cell 0 rfl) d os
  have b1 := fun d os => cell_regrown (HY0.out.cell 0 rfl) d os
  have q1 : ∀ d os, Calls Try.prog 27 #[.agg #[.slice A n n]] (grow (redrawn W d) os) fun e w'' => e = .returned (.bool cx) ∧ ∃ p : Regrown, w'' = grow (redrawn W p.d) p.os := fun d os => Calls.regrown_of (IX.out _ (HB3.out.trans ((below_regrown W d os).mono HB3.out.size)))
  have q2 : ∀ d os, Calls Try.prog 27 #[.agg #[.slice B m m]] (grow (redrawn W d) os) fun e w'' => e = .returned (.bool cy) ∧ ∃ p : Regrown, w'' = grow (redrawn W p.d) p.os := fun d os => Calls.regrown_of (IY.out _ (HB3.out.trans ((below_regrown W d os).mono HB3.out.size)))
  have q3 : ∀ d os', Calls Try.prog 40 #[.agg #[.slice A n n]] (grow (redrawn W d) os') fun e w'' => e = .returned (.string ⟨os.toArray⟩) ∧ ∃ p : Regrown, w'' = grow (redrawn W p.d) p.os := fun d os' => Calls.regrown_of (OX.out _ (HB3.out.trans ((below_regrown W d os').mono HB3.out.size)))
  have q4 : ∀ d os, Calls Try.prog 41 #[.agg #[.slice B m m]] (grow (redrawn W d) os) fun e w'' => e = .returned (.string ⟨is.toArray⟩) ∧ ∃ p : Regrown, w'' = grow (redrawn W p.d) p.os := fun d os => Calls.regrown_of (OY.out _ (HB3.out.trans ((below_regrown W d os).mono HB3.out.size)))
  have HNO : Hid (rb = false → r = []) := fun h => by rw [HCC.out, h]; rfl
  by_cases hcx : cx = true
  case neg =>
    obtain rfl : cx = false := by simpa using hcx
    clear hcx
    have HRB : Hid (rb = false) := HCB.out
    refine wp_region_quiet_below (by kernel_rfl) (by kernel_rfl) ?_
    repeat (quiet_step (first | with_reducible exact q1 _ _ | with_reducible exact q2 _ _ | with_reducible exact q3 _ _ | with_reducible exact q4 _ _))
    refine wpQuiet_nil ?_
    intro _ hw'
    obtain ⟨⟨dq, osq⟩, hw''⟩ := hw'
    subst hw''
    have HB5 : Hid (Below w.heap.size w (grow (redrawn W dq) osq)) := HB3.out.trans ((below_regrown W dq osq).mono HB3.out.size)
    have HR5 : Hid (InC (grow (redrawn W dq) osq) (w.heap.size + 1 + 1) #[.slice none 0 0] 29) := HR0.out.kept (below_regrown W dq osq)
    clear q1 q2 q3 q4 b0 b1
    have r0 := HR5.out.cell 0 rfl
    have f0 := HR5.out.free 0
    generalize grow (redrawn W dq) osq = w5 at *
    go_wp2_with fail
    (try simp only [Exit.inBlock, Exit.then])
    refine bodyPost_ret (results_cell_rt rfl _ _ (w.heap.size + 1 + 1) _ _ _ _ rfl (HR5.out.put 0 _) Try.underlying29 rfl infoCdM) rfl ?_
    have hrb := HRB.out
    have hre := HNO.out hrb
    subst hrb
    subst hre
    exact HP.out _ _ (RowRd.nil _ _ _) (HB5.out.setCell (p := ⟨w.heap.size + 1 + 1, 0, none⟩) (by show w.heap.size ≤ w.heap.size + 1 + 1; omega) _)
  subst hcx
  by_cases hcy : cy = true
  case neg =>
    obtain rfl : cy = false := by simpa using hcy
    clear hcy
    have HRB : Hid (rb = false) := by unfold Hid; rw [HCB.out]; rfl
    refine wp_region_quiet_below (by kernel_rfl) (by kernel_rfl) ?_
    repeat (quiet_step (first | with_reducible exact q1 _ _ | with_reducible exact q2 _ _ | with_reducible exact q3 _ _ | with_reducible exact q4 _ _))
    refine wpQuiet_nil ?_
    intro _ hw'
    obtain ⟨⟨dq, osq⟩, hw''⟩ := hw'
    subst hw''
    have HB5 : Hid (Below w.heap.size w (grow (redrawn W dq) osq)) := HB3.out.trans ((below_regrown W dq osq).mono HB3.out.size)
    have HR5 : Hid (InC (grow (redrawn W dq) osq) (w.heap.size + 1 + 1) #[.slice none 0 0] 29) := HR0.out.kept (below_regrown W dq osq)
    clear q1 q2 q3 q4 b0 b1
    have r0 := HR5.out.cell 0 rfl
    have f0 := HR5.out.free 0
    generalize grow (redrawn W dq) osq = w5 at *
    go_wp2_with fail
    (try simp only [Exit.inBlock, Exit.then])
    refine bodyPost_ret (results_cell_rt rfl _ _ (w.heap.size + 1 + 1) _ _ _ _ rfl (HR5.out.put 0 _) Try.underlying29 rfl infoCdM) rfl ?_
    have hrb := HRB.out
    have hre := HNO.out hrb
    subst hrb
    subst hre
    exact HP.out _ _ (RowRd.nil _ _ _) (HB5.out.setCell (p := ⟨w.heap.size + 1 + 1, 0, none⟩) (by show w.heap.size ≤ w.heap.size + 1 + 1; omega) _)
  subst hcy
  have hos := HOS.out rfl
  have his := HIS.out rfl
  subst hos his
  by_cases hoi : os = is
  case neg =>
    have HRB : Hid (rb = false) := by unfold Hid; rw [HCB.out, decide_eq_false hoi]; rfl
    have hq2 : ((ByteArray.mk os.toArray).toList == (ByteArray.mk is.toArray).toList) = false := by
      rw [Lib.toList_data, Lib.toList_data]
      simpa using hoi
    generalize (⟨os.toArray⟩ : ByteArray) = s1 at *
    generalize (⟨is.toArray⟩ : ByteArray) = s2 at *
    refine wp_region_quiet_below (by kernel_rfl) (by kernel_rfl) ?_
    repeat (quiet_step (first | with_reducible exact q1 _ _ | with_reducible exact q2 _ _ | with_reducible exact q3 _ _ | with_reducible exact q4 _ _))
    refine wpQuiet_nil ?_
    intro _ hw'
    obtain ⟨⟨dq, osq⟩, hw''⟩ := hw'
    subst hw''
    have HB5 : Hid (Below w.heap.size w (grow (redrawn W dq) osq)) := HB3.out.trans ((below_regrown W dq osq).mono HB3.out.size)
    have HR5 : Hid (InC (grow (redrawn W dq) osq) (w.heap.size + 1 + 1) #[.slice none 0 0] 29) := HR0.out.kept (below_regrown W dq osq)
    clear q1 q2 q3 q4 b0 b1
    have r0 := HR5.out.cell 0 rfl
    have f0 := HR5.out.free 0
    generalize grow (redrawn W dq) osq = w5 at *
    go_wp2_with fail
    (try simp only [Exit.inBlock, Exit.then])
    refine bodyPost_ret (results_cell_rt rfl _ _ (w.heap.size + 1 + 1) _ _ _ _ rfl (HR5.out.put 0 _) Try.underlying29 rfl infoCdM) rfl ?_
    have hrb := HRB.out
    have hre := HNO.out hrb
    subst hrb
    subst hre
    exact HP.out _ _ (RowRd.nil _ _ _) (HB5.out.setCell (p := ⟨w.heap.size + 1 + 1, 0, none⟩) (by show w.heap.size ≤ w.heap.size + 1 + 1; omega) _)
  subst hoi
  have HRB : Hid (rb = true) := by unfold Hid; rw [HCB.out]; simp
  have HRC : Hid (r = cl) := by unfold Hid; rw [HCC.out, HRB.out]; rfl
  have HC0 := Lib.hid (HMC.out rfl)
  have HVV := Lib.hid (HVC.out rfl rfl rfl)
  have hn16 := HLX.out rfl
  have hm16 := HLY.out rfl
  have hq2 : ((ByteArray.mk os.toArray).toList == (ByteArray.mk os.toArray).toList) = true := by simp
  generalize (⟨os.toArray⟩ : ByteArray) = s1 at *
  refine wp_region_quiet_below (by kernel_rfl) (by kernel_rfl) ?_
  repeat (quiet_step (first | with_reducible exact q1 _ _ | with_reducible exact q2 _ _ | with_reducible exact q3 _ _ | with_reducible exact q4 _ _))
  refine wpQuiet_nil ?_
  intro _ hw'
  obtain ⟨⟨dq, osq⟩, hw''⟩ := hw'
  subst hw''
  have HB5 : Hid (Below w.heap.size w (grow (redrawn W dq) osq)) := HB3.out.trans ((below_regrown W dq osq).mono HB3.out.size)
  have HR5 : Hid (InC (grow (redrawn W dq) osq) (w.heap.size + 1 + 1) #[.slice none 0 0] 29) := HR0.out.kept (below_regrown W dq osq)
  clear q1 q2 q3 q4 b0 b1
  have HX5 : Hid (InC (grow (redrawn W dq) osq) w.heap.size #[.slice A n n] 29) := HX0.out.kept (below_regrown W dq osq)
  have HY5 : Hid (InC (grow (redrawn W dq) osq) (w.heap.size + 1) #[.slice B m m] 29) := HY0.out.kept (below_regrown W dq osq)
  have HS5 : Hid (w.heap.size + 3 ≤ (grow (redrawn W dq) osq).heap.size) := by unfold Hid; have := HR5.out.lt; omega
  generalize grow (redrawn W dq) osq = w5 at *
  have HM0 : Hid (MS w w5.heap.size (.slice A n n) (.slice B m m) [] (.slice none 0 0) (w5.alloc (.cells #[.slice none 0 0] 29))) :=
    ⟨OwnRd.nil _ _, HX5.out.kept ((Below.refl _ _).alloc (Nat.le_refl _) _), HY5.out.kept ((Below.refl _ _).alloc (Nat.le_refl _) _), HR5.out.kept ((Below.refl _ _).alloc (Nat.le_refl _) _), heap_alloc_new _ _, HB5.out.alloc HB5.out.size _, HS5.out, by simp⟩
  clear HX5 HY5 HR5 HB5 HS5 HX0 HY0 HR0 HB3 hq2 HMC HVC HLX HLY HNO HOS HIS HCB HCC IX IY OX OY
  go_wp2_with fail
  generalize hg : w5.heap.size = g at *
  go_loopw [7, 8] (fun kk ii wr => ∃ (k i : Nat) (acc : List DLink) (v : Value), kk = .int .i64 k ∧ ii = .int .i64 i ∧ Hid (MC cl x.Links y.Links i k acc) ∧ MS w g (.slice A n n) (.slice B m m) acc v wr) (fun _ ii _ => n - (intOf ii).toNat)
  case atStart => exact ⟨0, 0, [], .slice none 0 0, rfl, rfl, HC0, HM0.out⟩
  case round =>
    obtain ⟨k, i, acc, v, rfl, rfl, hmc, hms⟩ := hrel
    obtain ⟨Av, cv, rfl⟩ := hms.own.form
    have HMS := Lib.hid hms
    clear hms
    have hil := hmc.out.il
    have hkl := hmc.out.kl
    have hsz := hmc.out.sz
    rw [HLN.out] at hil
    rw [HLM.out] at hkl
    have a1 := HMS.out.ba.cell 0 rfl
    have b1 := HMS.out.bb.cell 0 rfl
    by_cases hin : i < n
    · obtain ⟨z, hz⟩ := HXN.out i hin
      obtain ⟨ga, oa, xs, Fk, rfl, _, hra, _, hca⟩ := (HV.out.kept HMS.out.bel).get hz
      obtain rfl := rLink_rd hra
      rw [rLink_size] at hca
      have c0 := hca 0 _ rfl
      have c1 := hca 1 _ rfl
      simp only [Nat.add_zero] at c0
      clear hca hra
      have o1 : ∀ o, (wr.alloc o).cell? ⟨g, 0, none⟩ = some (.slice Av acc.length cv) := fun o => (HMS.out.bo.kept ((Below.refl _ _).alloc (Nat.le_refl _) o)).cell 0 rfl
      have HZ := Lib.hid hz
      by_cases hzo : z.Out = 0
      · have HAW := Lib.hid (hmc.out.away hz hzo)
        have hq0 : (z.Out.toNat : Int) = 0 := by rw [hzo]; rfl
        rw [hq0] at c1
        generalize hp : (z.In.toNat : Int) = p at *
        have HP0 := Lib.hid hp
        have HQ0 := Lib.hid hq0
        have HM1 : Hid (MS w g (.slice (some ⟨ga, oa, none⟩) n n) (.slice B m m) acc (.slice Av acc.length cv) (wr.alloc (.cells #[.int .u8 p, .int .u8 0] 40))) := HMS.out.kept ((Below.refl _ _).alloc (Nat.le_refl _) _)
        have HAL : Hid (acc.length ≤ 1000000) := by unfold Hid; omega
        clear hz hzo hp hq0
        go_wp2_with (at_builtin; refine wpList_link1 (wr.alloc (.cells #[.int .u8 p, .int .u8 0] 40)) rfl (.tmp 44) (.tmp 46) rfl (g + 1) (.slice Av acc.length cv) acc z HM1.out.own p 0 HP0.out HQ0.out HAL.out HM1.out.size _ (by simp) rfl rfl ?_; intro v' w2 h1 h2 h3; obtain ⟨A2, c2, rfl⟩ := h1.form; have HO2 := Lib.hid h1; have HB2 := Lib.hid h2; have hbo2 := InC.keptB HM1.out.bo h2 (by omega); have k2 := hbo2.cell 0 rfl; have f2 := hbo2.free 0; clear h1 h2 h3 hbo2)
        go_roundw
        case rel => exact ⟨k, i + 1, acc ++ [z], _, rfl, by go_num, HAW, HM1.out.put HO2.out.one HB2.out⟩
        case measure => simp [intOf]; omega
      · have hkm0 := hmc.out.more hz hzo
        rw [HLM.out] at hkm0
        have HNZ : Hid (¬ z.Out = 0) := hzo
        have hq0 : ¬ (z.Out.toNat : Int) = 0 := fun e => hzo ((u8_zero _).1 e)
        clear hzo
        generalize hp : (z.In.toNat : Int) = p at *
        generalize hq : (z.Out.toNat : Int) = q at *
        have HP0 := Lib.hid hp
        have qb : (q == 0) = false := by simpa using hq0
        have HM1 : Hid (MS w g (.slice (some ⟨ga, oa, none⟩) n n) (.slice B m m) acc (.slice Av acc.length cv) (wr.alloc (.cells #[.int .u8 p, .int .u8 q] 40))) := HMS.out.kept ((Below.refl _ _).alloc (Nat.le_refl _) _)
        have HXB : Hid (InC (wr.alloc (.cells #[.int .u8 p, .int .u8 q] 40)) wr.heap.size #[.int .u8 p, .int .u8 q] 40) := heap_alloc_new _ _
        have HVN : Hid ((Value.slice Av acc.length cv).ownBlock ≠ some wr.heap.size) := fun e => by have := (HMS.out.own.lt _ e).2; omega
        have HGX : Hid (g + 1 ≤ wr.heap.size) := HMS.out.size
        clear hz hp hq hq0
        go_wp2_with fail
        generalize wr.alloc (.cells #[.int .u8 p, .int .u8 q] 40) = W1 at *
        generalize wr.heap.size = gx at *
        go_loopw [7] (fun kk wi => ∃ (k : Nat) (acc : List DLink) (v : Value), kk = .int .i64 k ∧ Hid (MC cl x.Links y.Links i k acc) ∧ MS w g (.slice (some ⟨ga, oa, none⟩) n n) (.slice B m m) acc v wi ∧ InC wi gx #[.int .u8 p, .int .u8 q] 40 ∧ Hid (v.ownBlock ≠ some gx)) (fun kk _ => m - (intOf kk).toNat)
        case atStart => exact ⟨k, acc, _, rfl, hmc, HM1.out, HXB.out, HVN.out⟩
        case round =>
          obtain ⟨k2, acc2, v2, rfl, hmc2, hms2, hxb, hvn⟩ := hrel
          obtain ⟨A3, c3, rfl⟩ := hms2.own.form
          have HM2 := Lib.hid hms2
          have HX2 := Lib.hid hxb
          have hsz2 := hmc2.out.sz
          have hkl2 := hmc2.out.kl
          have hkm := hmc2.out.more HZ.out HNZ.out
          rw [HLM.out] at hkl2 hkm
          clear hms2 hxb
          obtain ⟨y2, hy2⟩ := HYN.out k2 hkm
          obtain ⟨gb, ob, xs, Fk2, rfl, _, hrb, _, hcb⟩ := (HU.out.kept HM2.out.bel).get hy2
          obtain rfl := rLink_rd hrb
          rw [rLink_size] at hcb
          have d0 := hcb 0 _ rfl
          have d1 := hcb 1 _ rfl
          simp only [Nat.add_zero] at d0
          clear hcb hrb
          have b2 := HM2.out.bb.cell 0 rfl
          have o2 := HM2.out.bo.cell 0 rfl
          have x20 := HX2.out.cell 0 rfl
          have x21 := HX2.out.cell 1 rfl
          have HAL : Hid (acc2.length ≤ 1000000) := by unfold Hid; omega
          by_cases hyi : y2.In = 0
          · have HPI := Lib.hid (hmc2.out.putin HZ.out HNZ.out hy2 hyi)
            have hi0 : (y2.In.toNat : Int) = 0 := by rw [hyi]; rfl
            rw [hi0] at d0
            have HI0 := Lib.hid hi0
            generalize hb' : (y2.Out.toNat : Int) = yb at *
            have HYB := Lib.hid hb'
            have o2a : ∀ o, (wr.alloc o).cell? ⟨g, 0, none⟩ = some (.slice A3 acc2.length c3) := fun o => (HM2.out.bo.kept ((Below.refl _ _).alloc (Nat.le_refl _) o)).cell 0 rfl
            clear hyi hi0 hb' hy2
            go_wp2_with fail
            go_region_law (refine step_link1_drew wr rfl (.tmp 57) (.tmp 63) rfl (g + 1) (.slice A3 acc2.length c3) acc2 y2 HM2.out.own 0 yb HI0.out HYB.out HAL.out HM2.out.size wr.heap.size rfl (by simp [Act.eval]) (by simp [Act.eval]) ?_; intro v' w2 h1 h2 h3; obtain ⟨A4, c4, rfl⟩ := h1.form; have HO2 := Lib.hid h1.one; have HB2 := Lib.hid h2; have hbo2 := InC.keptB HM2.out.bo h2 (by omega); have k4 := hbo2.cell 0 rfl; have f4 := hbo2.free 0; have HX3 : Hid (InC w2 gx #[.int .u8 p, .int .u8 q] 40) := ((h3 gx HX2.out.lt hvn.out).1).trans HX2.out; have HV3 := Lib.hid (h3 gx HX2.out.lt hvn.out).2; clear h1 h2 h3 hbo2)
            all_goals
              go_wp2
              go_roundw
              case rel => exact ⟨k2 + 1, acc2 ++ [y2], _, by go_num, HPI, HM2.out.put HO2.out HB2.out, InC.other HX3.out (by have h1 := HGX.out; show gx ≠ g; omega) _, by have h1 := HV3.out; rw [List.length_append] at h1; exact Lib.hid h1⟩
              case measure => simp [intOf]; omega
          · have hbz : ¬ (y2.In.toNat : Int) = 0 := fun e => hyi ((u8_zero _).1 e)
            have qy : ((y2.In.toNat : Int) == 0) = false := by simpa using hbz
            have HBO : Hid (¬ (z.In = 0 ∧ y2.Out = 0) → MC cl x.Links y.Links (i + 1) (k2 + 1) (acc2 ++ [⟨z.In, y2.Out⟩])) := fun h => hmc2.out.both HZ.out HNZ.out hy2 hyi h
            have HNO : Hid (z.In = 0 ∧ y2.Out = 0 → MC cl x.Links y.Links (i + 1) (k2 + 1) acc2) := fun h => hmc2.out.none HZ.out HNZ.out hy2 hyi h
            generalize hb' : (y2.Out.toNat : Int) = yb at *
            generalize hyb : (y2.In.toNat : Int) = ya at *
            have HYB := Lib.hid hb'
            have e20 : ∀ o, (wr.alloc o).cell? ⟨gx, 0, none⟩ = some (.int .u8 p) := fun o => (HX2.out.kept ((Below.refl _ _).alloc (Nat.le_refl _) o)).cell 0 rfl
            have e21 : ∀ o, (wr.alloc o).cell? ⟨w.heap.size + 1, 0, none⟩ = some (.slice (some ⟨gb, ob, none⟩) m m) := fun o => (HM2.out.bb.kept ((Below.refl _ _).alloc (Nat.le_refl _) o)).cell 0 rfl
            have e22 : ∀ o, (wr.alloc o).cell? ⟨gb, ob + k2 * 2 + 1, none⟩ = some (.int .u8 yb) := fun o => (((Below.refl _ _).alloc (Nat.le_refl _) o).cell (block_lt_of_cell d1)).trans d1
            clear hyi hbz hb' hyb hy2
            go_upto_region 14 with fail
            go_cut [10] from 68 to 76 (fun pp wx => pp = .pointer (some ⟨wr.heap.size, 0, none⟩) ∧ wx.heap = (wr.alloc (.cells #[.int .u8 p, .int .u8 yb] 40)).heap ∧ Below wr.heap.size wr wx)
            case first =>
              go_region
              all_goals
                go_wp2_with fail
                go_meet
                exact ⟨rfl, rfl, Below6.drew ((Below.refl _ _).alloc (Nat.le_refl _) _)⟩
            case rest =>
            obtain ⟨rfl, hwc, hbc⟩ := hcut
            have HM3 := Lib.hid (HM2.out.kept hbc)
            have HYX : Hid (InC wc wr.heap.size #[.int .u8 p, .int .u8 yb] 40) := inC_heapM (heap_alloc_new wr _) hwc
            clear hwc hbc e20 e21 e22 d0 d1 b2 o2 x20 x21
            have y0 := HYX.out.cell 0 rfl
            have y1 := HYX.out.cell 1 rfl
            have o3 := HM3.out.bo.cell 0 rfl
            have f3 := HM3.out.bo.free 0
            by_cases hz2 : p = 0 ∧ yb = 0
            · obtain ⟨rfl, rfl⟩ := hz2
              have HME := Lib.hid (HNO.out ⟨(u8_zero _).1 HP0.out, (u8_zero _).1 HYB.out⟩)
              go_wp2_with fail
              go_roundw
              case rel => exact ⟨k2 + 1, i + 1, acc2, _, by go_num, by go_num, HME, HM3.out⟩
              case measure => simp [intOf]; omega
            · have HME := Lib.hid (HBO.out (fun e => hz2 ⟨by rw [← HP0.out, e.1]; rfl, by rw [← HYB.out, e.2]; rfl⟩))
              have HNE : Hid (((p != 0) = true) ∨ ((p != 0) = false ∧ (yb != 0) = true)) := by
                unfold Hid
                by_cases h0 : p = 0
                · exact Or.inr ⟨by simp [h0], by simp; exact fun h => hz2 ⟨h0, h⟩⟩
                · exact Or.inl (by simp [h0])
              clear hz2
              have go17 : True := trivial
              rcases HNE.out with h0 | ⟨h0, h1⟩
              all_goals
                go_wp2_with (at_builtin; refine wpList_link1 wc rfl (.tmp 88) (.tmp 90) rfl (g + 1) (.slice A3 acc2.length c3) acc2 ⟨z.In, y2.Out⟩ HM3.out.own p yb HP0.out HYB.out HAL.out HM3.out.size _ (by simp) rfl rfl ?_; intro v' w2 h1 h2 h3; obtain ⟨A4, c4, rfl⟩ := h1.form; have HO2 := Lib.hid h1.one; have HB2 := Lib.hid h2; have hbo2 := InC.keptB HM3.out.bo h2 (by omega); have k4 := hbo2.cell 0 rfl; have f4 := hbo2.free 0; clear h1 h2 h3 hbo2)
                go_roundw
                case rel => exact ⟨k2 + 1, i + 1, acc2 ++ [⟨z.In, y2.Out⟩], _, by go_num, by go_num, HME, HM3.out.put HO2.out HB2.out⟩
                case measure => simp [intOf]; omega
    · have hie : i = n := by omega
      have HFI : Hid (acc ++ y.Links.drop k = cl) := by
        have h := hmc.out
        rw [hie, ← HLN.out] at h
        exact h.fin
      have HCN : Hid (cl.length ≤ 64) := by
        have h1 := congrArg List.length HFI.out
        rw [List.length_append, List.length_drop, HLM.out] at h1
        unfold Hid
        omega
      have HAL : Hid (acc.length ≤ 1000000) := by unfold Hid; omega
      have HDL : Hid ((y.Links.drop k).length ≤ 1000000) := by unfold Hid; rw [List.length_drop, HLM.out]; omega
      have HFF : Hid (∀ a, F a → a.block < wr.drew.heap.size ∧ (Value.slice Av acc.length cv).ownBlock ≠ some a.block) := fun a ha => by
        have h1 := HF.out a ha
        have h2 := HMS.out.bel.size
        have h3 := HMS.out.lo
        exact ⟨Nat.lt_of_lt_of_le h1 h2, fun e => by have h4 := (HMS.out.own.lt _ e).1; omega⟩
      have HOD : Hid (OwnL (g + 1) wr.drew (.slice Av acc.length cv) acc) := HMS.out.own.kept (Below.refl _ _).drew
      have HGS : Hid (g + 1 ≤ wr.drew.heap.size) := HMS.out.size
      have HMD : Hid (MS w g (.slice A n n) (.slice B m m) acc (.slice Av acc.length cv) wr.drew) := HMS.out.kept (Below.refl _ _).drew
      have o1 := HMS.out.bo.cell 0 rfl
      have hk0 : (0 : Int) ≤ (k : Int) := by omega
      have hk1 : (k : Int) ≤ (m : Int) := by omega
      subst hie
      by_cases hkm : k = m
      · have HRW : Hid (RowRd rLink false wr.drew (.slice B 0 0) (y.Links.drop k) F) := by
          unfold Hid
          rw [List.drop_eq_nil_of_le (by rw [HLM.out]; omega)]
          cases B with
          | none => exact RowRd.nil _ _ _
          | some p => exact RowRd.zero _ _ _ _ _
        subst hkm
        have hkk : ((k : Int) ≤ (k : Int)) := Int.le_refl _
        go_upto_region 18 with fail
        go_region_law (refine step_links wr.drew rfl (.tmp 94) (.tmp 98) rfl (g + 1) (.slice Av acc.length cv) acc (y.Links.drop k) B 0 0 F HOD.out HRW.out HFF.out HAL.out HDL.out HGS.out (by rfl) (by rfl) ?_; intro v' w2 h1 h2 h3; rw [HFI.out] at h1; obtain ⟨A2, c2, rfl⟩ := h1.form; have HM4 := Lib.hid (HMD.out.put h1 h2); have hbo2 := InC.keptB HMD.out.bo h2 (by omega); have k4 := hbo2.cell 0 rfl; have f4 := hbo2.free 0; clear h1 h2 h3 hbo2)
        all_goals
          have h4 := HM4.out
          have e0 := h4.bo.cell 0 rfl
          have HM5 := Lib.hid h4
          clear h4 HMS
          have HIC : Hid (∀ W, Below (w2.setCell ⟨g, 0, none⟩ (.slice A2 cl.length c2)).heap.size (w2.setCell ⟨g, 0, none⟩ (.slice A2 cl.length c2)) W → Calls Try.prog 27 #[.agg #[.slice A2 cl.length c2]] W fun e w' => e = .returned (.bool true) ∧ Below W.heap.size W w') := fun W hW => by
            have h := specIsCd_any ⟨cl⟩ _ _ W (by have := HCN.out; show cl.length ≤ _; omega) ((HM5.out.own.row (by have := HCN.out; omega)).kept hW).weak
            rw [show isCd (⟨cl⟩ : DCandidate).Links = true from HVV.out] at h
            exact h
          go_wp2_with fail
          refine (HIC.out _ (Below.refl _ _)).mono ?_
          rintro e w6 ⟨rfl, hb6⟩
          have HM6 := Lib.hid (HM5.out.kept hb6)
          clear hb6 e0 HIC
          have e0 := HM6.out.bo.cell 0 rfl
          have r0 := HM6.out.br.cell 0 rfl
          have rf := HM6.out.br.free 0
          have HROW := Lib.hid (HM6.out.own.row (by have := HCN.out; omega))
          have HGL : Hid (w.heap.size + 3 ≤ g) := HM6.out.lo
          go_wp2_with fail
          (try simp only [Exit.inBlock, Exit.then])
          refine bodyPost_ret (results_cell_rt rfl _ _ (w.heap.size + 1 + 1) _ _ _ _ rfl (HM6.out.br.put 0 _) Try.underlying29 rfl infoCdM) rfl ?_
          have hrb := HRB.out
          have hre := HRC.out
          subst hrb
          subst hre
          exact HP.out _ _ ((HROW.out.apart (Unch.set (F := fun a => a.block = w.heap.size + 1 + 1) rfl _) (fun a ha => by have h1 : g + 1 ≤ a.block := ha; have h2 := HGL.out; show ¬ a.block = w.heap.size + 1 + 1; omega)).mono (fun a ha => by have h1 : g + 1 ≤ a.block := ha; have h2 := HGL.out; omega)) (HM6.out.bel.setCell (p := ⟨w.heap.size + 1 + 1, 0, none⟩) (by show w.heap.size ≤ w.heap.size + 1 + 1; omega) _)
      · have hlt : k < y.Links.length := by rw [HLM.out]; omega
        obtain ⟨gb, ob, rfl, hrw⟩ := row_from (HU.out.kept HMD.out.bel) k hlt
        rw [HLM.out] at hrw
        have HRW := Lib.hid hrw
        have hne : ¬ m = k := fun e => hkm e.symm
        clear hrw hlt
        go_upto_region 18 with fail
        go_region_law (refine step_links wr.drew rfl (.tmp 94) (.tmp 98) rfl (g + 1) (.slice Av acc.length cv) acc (y.Links.drop k) _ (m - k) (m - k) F HOD.out HRW.out HFF.out HAL.out HDL.out HGS.out (by rfl) (by rfl) ?_; intro v' w2 h1 h2 h3; rw [HFI.out] at h1; obtain ⟨A2, c2, rfl⟩ := h1.form; have HM4 := Lib.hid (HMD.out.put h1 h2); have hbo2 := InC.keptB HMD.out.bo h2 (by omega); have k4 := hbo2.cell 0 rfl; have f4 := hbo2.free 0; clear h1 h2 h3 hbo2)
        all_goals
          have h4 := HM4.out
          have e0 := h4.bo.cell 0 rfl
          have HM5 := Lib.hid h4
          clear h4 HMS
          have HIC : Hid (∀ W, Below (w2.setCell ⟨g, 0, none⟩ (.slice A2 cl.length c2)).heap.size (w2.setCell ⟨g, 0, none⟩ (.slice A2 cl.length c2)) W → Calls Try.prog 27 #[.agg #[.slice A2 cl.length c2]] W fun e w' => e = .returned (.bool true) ∧ Below W.heap.size W w') := fun W hW => by
            have h := specIsCd_any ⟨cl⟩ _ _ W (by have := HCN.out; show cl.length ≤ _; omega) ((HM5.out.own.row (by have := HCN.out; omega)).kept hW).weak
            rw [show isCd (⟨cl⟩ : DCandidate).Links = true from HVV.out] at h
            exact h
          go_wp2_with fail
          refine (HIC.out _ (Below.refl _ _)).mono ?_
          rintro e w6 ⟨rfl, hb6⟩
          have HM6 := Lib.hid (HM5.out.kept hb6)
          clear hb6 e0 HIC
          have e0 := HM6.out.bo.cell 0 rfl
          have r0 := HM6.out.br.cell 0 rfl
          have rf := HM6.out.br.free 0
          have HROW := Lib.hid (HM6.out.own.row (by have := HCN.out; omega))
          have HGL : Hid (w.heap.size + 3 ≤ g) := HM6.out.lo
          go_wp2_with fail
          (try simp only [Exit.inBlock, Exit.then])
          refine bodyPost_ret (results_cell_rt rfl _ _ (w.heap.size + 1 + 1) _ _ _ _ rfl (HM6.out.br.put 0 _) Try.underlying29 rfl infoCdM) rfl ?_
          have hrb := HRB.out
          have hre := HRC.out
          subst hrb
          subst hre
          exact HP.out _ _ ((HROW.out.apart (Unch.set (F := fun a => a.block = w.heap.size + 1 + 1) rfl _) (fun a ha => by have h1 : g + 1 ≤ a.block := ha; have h2 := HGL.out; show ¬ a.block = w.heap.size + 1 + 1; omega)).mono (fun a ha => by have h1 : g + 1 ≤ a.block := ha; have h2 := HGL.out; omega)) (HM6.out.bel.setCell (p := ⟨w.heap.size + 1 + 1, 0, none⟩) (by show w.heap.size ≤ w.heap.size + 1 + 1; omega) _)

end Go.Proofs.Ytfcmhbbeohhjmaa
