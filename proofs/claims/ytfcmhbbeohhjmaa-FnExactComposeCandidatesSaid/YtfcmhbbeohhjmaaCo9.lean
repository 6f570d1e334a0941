/- The program's composeLinks: what it answers. -/
import Derived.Test.YtfcmhbbeohhjmaaIc9
import Derived.Test.YtfcmhbbeohhjmaaRb
import Derived.Laws.StructEq
import Derived.WalkMore
import Derived.ScopeJumps
import Derived.Deep.DeepCutAuto
namespace Go.Proofs.Ytfcmhbbeohhjmaa
set_option maxRecDepth 100000
open Go.RowKit M
set_option linter.unusedVariables false
set_option linter.unusedSimpArgs false
set_option maxRecDepth 100000

theorem row_tail {w : World} {g off n cap : Nat} {x : DLink} {l : List DLink} {F : Addr → Prop} (h : RowRd rLink false w (.slice (some ⟨g, off, none⟩) n cap) (x :: l) F) (c : Nat) :
    RowRd rLink false w (.slice (some ⟨g, off + 2, none⟩) l.length c) l F := by
  obtain ⟨A', cap', Fk, hv, hm, hr⟩ := h
  cases hv
  refine ⟨some ⟨g, off + 2, none⟩, c, fun k => Fk (k + 1), rfl, ⟨by have := hm.1; simp at this; omega, fun h => by cases h⟩, fun k y hk => ?_⟩
  obtain ⟨g2, off2, xs, ha, h1, h2, h3, h4⟩ := hr (k + 1) y (by simpa using hk)
  cases ha
  refine ⟨g, off + 2, xs, rfl, h1, h2, fun j u hj => ?_, fun h => by cases h⟩
  have h5 := h3 j u hj
  rw [rLink_size] at *
  have e : off + (k + 1) * 2 + j = off + 2 + k * 2 + j := by omega
  rw [e] at h5
  exact ⟨h5.1, h5.2.1, fun h => by cases h⟩
theorem row_head {w : World} {A : Option Addr} {n cap : Nat} {x : DLink} {l : List DLink} {F : Addr → Prop} (h : RowRd rLink false w (.slice A n cap) (x :: l) F) :
    ∃ g off, A = some ⟨g, off, none⟩ ∧ n = l.length + 1 ∧ w.cell? ⟨g, off, none⟩ = some (.int .u8 (x.In.toNat : Int)) ∧ w.cell? ⟨g, off + 1, none⟩ = some (.int .u8 (x.Out.toNat : Int)) := by
  have hn : n = l.length + 1 := by obtain ⟨A', cap', Fk, hv, _⟩ := h; cases hv; rfl
  obtain ⟨g, off, xs, Fk, rfl, _, hra, _, hca⟩ := h.get (k := 0) (x := x) rfl
  obtain rfl := rLink_rd hra
  rw [rLink_size] at hca
  exact ⟨g, off, rfl, hn, hca 0 _ rfl, hca 1 _ rfl⟩
theorem eqGuardL9 : Try.prog.eqGuardType Try.prog.depth 40 = false := by kernel_rfl
theorem equalL9 (a b a' b' : Int) (w : World) : (Op.equalIn 10000 40 (.agg #[.int .u8 a, .int .u8 b]) (.agg #[.int .u8 a', .int .u8 b'])).run Try.prog w = .ok (decide (a = a' ∧ b = b')) w := by
  rw [run_equalIn_struct w 9999 40 _ _ (by kernel_rfl) (by kernel_rfl)]
  unfold Program.fieldsOf
  rw [Try.underlying40]
  have he : ∀ (d : Nat) (a b : Int) (w : World), (Op.equalIn (d + 1) 5 (.int .u8 a) (.int .u8 b)).run Try.prog w = .ok (decide (a = b)) w := fun d a b w => by
    rw [run_equalIn_int w d 5 .u8 .u8 a b Try.underlying5]
    congr 1
  by_cases h1 : a = a'
  · by_cases h2 : b = b'
    · simp [Op.eqFields, part, Sem.run_bind, Try.isAgg5, he 9998, h1, h2]
    · simp [Op.eqFields, part, Sem.run_bind, Try.isAgg5, he 9998, h1, h2]
  · simp [Op.eqFields, part, Sem.run_bind, Try.isAgg5, he 9998, h1]
theorem inC_heap9 {w w' : World} {g : Nat} {cs : Array Value} {t : TypeId} (h : InC w g cs t) (e : w'.heap = w.heap) : InC w' g cs t := by unfold InC; rw [e]; exact h
def lenOf : Value → Nat | .slice _ n _ => n | _ => 0
/-- What is left of both rows, and what has been laid. -/
structure CL (W0 : World) (F : Addr → Prop) (r : List DLink) (w : World) (va vb vc : Value) (la lb acc : List DLink) : Prop where
  ra : RowRd rLink false w va la F
  rb : RowRd rLink false w vb lb F
  ca : ∃ A c, va = .slice A la.length c ∧ la.length ≤ c
  cb : ∃ A c, vb = .slice A lb.length c ∧ lb.length ≤ c
  own : w.ownsRow W0.heap.size 40 2 vc acc.length (acc.flatMap lkC)
  bel : Below W0.heap.size W0 w
  io : outL la = inL lb
  eq : acc ++ compL la lb = r
  sz : acc.length + la.length + lb.length ≤ 32
theorem CL.kept {W0 w w2 : World} {F : Addr → Prop} {r la lb acc : List DLink} {va vb vc : Value} (h : CL W0 F r w va vb vc la lb acc) (hb : Below w.heap.size w w2) : CL W0 F r w2 va vb vc la lb acc :=
  ⟨h.ra.kept hb, h.rb.kept hb, h.ca, h.cb, own_keep h.own hb, below_step h.bel hb, h.io, h.eq, h.sz⟩
section
variable {W0 w w2 : World} {F : Addr → Prop} {r la lb acc la' lb' : List DLink} {va vb vc va' vb' vc2 : Value} {y : DLink}
theorem CL.adv (h : CL W0 F r w va vb vc la lb acc) (hF : ∀ a, F a → a.block < W0.heap.size) (hown : w2.ownsRow W0.heap.size 40 2 vc2 (acc.length + 1) (acc.flatMap lkC ++ [.int .u8 (y.In.toNat : Int), .int .u8 (y.Out.toNat : Int)])) (hb : Below W0.heap.size w w2)
    (ra : RowRd rLink false w va' la' F) (rb : RowRd rLink false w vb' lb' F) (ca : ∃ A c, va' = .slice A la'.length c ∧ la'.length ≤ c) (cb : ∃ A c, vb' = .slice A lb'.length c ∧ lb'.length ≤ c) (io : outL la' = inL lb') (eq : compL la lb = y :: compL la' lb') (hl : la'.length + lb'.length + 1 ≤ la.length + lb.length) :
    CL W0 F r w2 va' vb' vc2 la' lb' (acc ++ [y]) :=
  ⟨ra.frame fun a ha => ⟨hb.cell (hF a ha), hb.frozen (hF a ha)⟩, rb.frame fun a ha => ⟨hb.cell (hF a ha), hb.frozen (hF a ha)⟩, ca, cb, own_more y hown, h.bel.trans hb, io, by rw [← h.eq, eq]; simp, by have := h.sz; simp; omega⟩
theorem CL.pass (h : CL W0 F r w va vb vc la lb acc) (hF : ∀ a, F a → a.block < W0.heap.size) (hb : Below w.heap.size w w2)
    (ra : RowRd rLink false w va' la' F) (rb : RowRd rLink false w vb' lb' F) (ca : ∃ A c, va' = .slice A la'.length c ∧ la'.length ≤ c) (cb : ∃ A c, vb' = .slice A lb'.length c ∧ lb'.length ≤ c) (io : outL la' = inL lb') (eq : compL la lb = compL la' lb') (hl : la'.length + lb'.length ≤ la.length + lb.length) :
    CL W0 F r w2 va' vb' vc la' lb' acc :=
  ⟨ra.kept hb, rb.kept hb, ca, cb, own_keep h.own hb, below_step h.bel hb, io, by rw [← h.eq, eq], by have := h.sz; omega⟩
end
theorem cap_of {A B : Option Addr} {n m c d : Nat} (h : ∃ A' c', Value.slice A n c = .slice A' m c' ∧ m ≤ c') : m ≤ c := by
  obtain ⟨_, _, e, h⟩ := h; cases e; exact h
theorem row_rest {w : World} {g off cap : Nat} {x : DLink} {l : List DLink} {F : Addr → Prop} (h : RowRd rLink false w (.slice (some ⟨g, off, none⟩) (l.length + 1) cap) (x :: l) F) (hc : ¬ cap = 1) (hm : l.length + 1 ≤ cap) :
    RowRd rLink false w (.slice (some ⟨g, off + 2, none⟩) l.length (cap - 1)) l F ∧ ∃ A c, Value.slice (some ⟨g, off + 2, none⟩) l.length (cap - 1) = .slice A l.length c ∧ l.length ≤ c :=
  ⟨row_tail h _, _, _, rfl, by omega⟩
theorem row_last {w : World} {g off cap : Nat} {x : DLink} {l : List DLink} {F : Addr → Prop} (h : RowRd rLink false w (.slice (some ⟨g, off, none⟩) (l.length + 1) cap) (x :: l) F) (hc : cap = 1) (hm : l.length + 1 ≤ cap) :
    RowRd rLink false w (.slice (some ⟨g, off, none⟩) l.length 0) l F ∧ ∃ A c, Value.slice (some ⟨g, off, none⟩) l.length 0 = .slice A l.length c ∧ l.length ≤ c := by
  have hl : l = [] := List.eq_nil_of_length_eq_zero (by omega)
  subst hl
  exact ⟨RowRd.zero _ _ _ _ _, _, _, rfl, by simp⟩
noncomputable def R44 : Code := match Try.f44.body with | some (.seq _ (.scope (.seq _ (.seq _ r)))) => r | _ => .skip
def J44 (W0 : World) (F : Addr → Prop) (r : List DLink) (a' : Act) (w' : World) : Prop :=
  ∃ va vb vc la lb acc u2 u3 u4 u6 u7 u8 u9 u10 u11 u12 u13 u14 u15 u16 u17 u18 u19 u20 u21 u22 u23 u24 u25 u26 u27 u28 u29 u30 u31 u32 u33 u34 u35 u36 u37 u38 u39 u40 u41 u42 u43 u44 u45 u46 u47 u48 u49 u50 u51 u52 u53 u54 u55 u56 u57 u58 u59 u60 u61 u62 u63 u64 u65 u66 u67, a' = { tmps := #[va, vb, u2, u3, u4, vc, u6, u7, u8, u9, u10, u11, u12, u13, u14, u15, u16, u17, u18, u19, u20, u21, u22, u23, u24, u25, u26, u27, u28, u29, u30, u31, u32, u33, u34, u35, u36, u37, u38, u39, u40, u41, u42, u43, u44, u45, u46, u47, u48, u49, u50, u51, u52, u53, u54, u55, u56, u57, u58, u59, u60, u61, u62, u63, u64, u65, u66, u67], defers := [] } ∧ CL W0 F r w' va vb vc la lb acc
def mu44 (a : Act) (_ : World) : Nat := lenOf (a.tmps.getD 0 undef) + lenOf (a.tmps.getD 1 undef)
set_option maxHeartbeats 16000000 in
theorem pass44 (W0 : World) (F : Addr → Prop) (hF : ∀ a, F a → a.block < W0.heap.size) (r : List DLink) (va vb vc : Value) (la lb acc : List DLink) (u2 u3 u4 u6 u7 u8 u9 u10 u11 u12 u13 u14 u15 u16 u17 u18 u19 u20 u21 u22 u23 u24 u25 u26 u27 u28 u29 u30 u31 u32 u33 u34 u35 u36 u37 u38 u39 u40 u41 u42 u43 u44 u45 u46 u47 u48 u49 u50 u51 u52 u53 u54 u55 u56 u57 u58 u59 u60 u61 u62 u63 u64 u65 u66 u67 : Value) (w : World) (h : CL W0 F r w va vb vc la lb acc) :
    R44.wp Try.prog (Exit.jump 0 (fun a' w' => J44 W0 F r a' w' ∧ mu44 a' w' < la.length + lb.length) (bodyPost Try.prog Try.f44 (OwnPost rLink r W0))) { tmps := #[va, vb, u2, u3, u4, vc, u6, u7, u8, u9, u10, u11, u12, u13, u14, u15, u16, u17, u18, u19, u20, u21, u22, u23, u24, u25, u26, u27, u28, u29, u30, u31, u32, u33, u34, u35, u36, u37, u38, u39, u40, u41, u42, u43, u44, u45, u46, u47, u48, u49, u50, u51, u52, u53, u54, u55, u56, u57, u58, u59, u60, u61, u62, u63, u64, u65, u66, u67], defers := [] } w := by
  obtain ⟨Aa, ca, rfl, hca⟩ := h.ca
  obtain ⟨Ab, cb, rfl, hcb⟩ := h.cb
  obtain ⟨Ac, cc, rfl⟩ := own_form h.own
  have H := Lib.hid h
  have HF := Lib.hid hF
  have hsz := h.sz
  have HA : Hid (∀ (x : DLink) W, Calls Try.prog 31 #[lkV x] W fun e w'' => e = .returned (.bool (delK x)) ∧ Below W.heap.size W w'') := fun x W => away_any x W
  have HP : Hid (∀ (x : DLink) W, Calls Try.prog 33 #[lkV x] W fun e w'' => e = .returned (.bool (insK x)) ∧ Below W.heap.size W w'') := fun x W => putin_any x W
  clear h hF
  dsimp only [R44, Try.f44]
  cases la with
  | nil =>
    cases lb with
    | nil =>
      have HO : Hid (RowRd rLink true w (.slice Ac acc.length cc) r (fun a => W0.heap.size ≤ a.block)) := by
        have h1 := H.out.eq
        rw [comp_nil, List.append_nil] at h1
        rw [← h1]
        exact own_links H.out.own (by omega)
      have HB := Lib.hid H.out.bel
      go_wp2
      simp only [Exit.jump]
      go_ret
      exact ⟨_, rfl, HO.out, HB.out⟩
    | cons y lb =>
      have hy : y.In = 0 := by
        have h1 := H.out.io
        have h2 : inL (y :: lb) = [] := h1.symm
        exact inL_none h2 y (by simp)
      have hiy : insK y = true := by unfold insK; rw [hy]; rfl
      obtain ⟨g, off, rfl, _, c0, c1⟩ := row_head H.out.rb
      have CY := Lib.hid (HP.out y)
      rw [hiy] at CY
      unfold lkV at CY
      clear HA HP
      have hio := H.out.io
      generalize hga : (y.In.toNat : Int) = a at *
      generalize hgb : (y.Out.toNat : Int) = b at *
      go_wp2_with fail
      refine (CY.out _).mono ?_
      rintro e w2 ⟨rfl, hb2⟩
      have H2 := Lib.hid (H.out.kept hb2)
      obtain ⟨g2, off2, hge, _, d0, d1⟩ := row_head H2.out.rb
      obtain ⟨rfl, rfl⟩ : g = g2 ∧ off = off2 := by cases hge; exact ⟨rfl, rfl⟩
      rw [hga] at d0
      rw [hgb] at d1
      have HGA := Lib.hid hga
      have HGB := Lib.hid hgb
      have HY := Lib.hid hy
      have HIO := Lib.hid hio
      clear hga hgb hy hio hiy hge
      have HSZ : Hid (W0.heap.size ≤ w2.heap.size) := H2.out.bel.size
      have HK2 : Hid (acc.length ≤ 2000000) := by unfold Hid; omega
      clear hb2 c0 c1 H
      have HCB : Hid (lb.length + 1 ≤ cb) := hcb
      have hb1 : (1 : Int) ≤ (lb.length : Int) + 1 := by omega
      by_cases hc1 : cb = 1
      case pos =>
        have HT := Lib.hid (row_last H2.out.rb hc1 HCB.out)
        go_wp2_with fail
        go_region_law (refine step_append_link_drew w2 rfl (.tmp 35) (.tmp 39) rfl W0.heap.size (.slice Ac acc.length cc) acc.length _ H2.out.own a b w2.heap.size rfl HK2.out HSZ.out (by simp [Act.eval]) (by simp [Act.eval]) ?_; intro v' w' h1 h2 h3; obtain ⟨A2, cap2, rfl⟩ := own_form h1; have HO2 := Lib.hid h1; have HB2 := Lib.hid h2; clear h1 h2 h3)
        all_goals
          go_wp2
          go_step3
          simp only [Exit.then, Exit.inBlock, Exit.jump]
          refine ⟨rfl, ⟨_, _, _, [], lb, acc ++ [y], _, _, _, _, _, _, _, _, _, _, _, _, _, _, _, _, _, _, _, _, _, _, _, _, _, _, _, _, _, _, _, _, _, _, _, _, _, _, _, _, _, _, _, _, _, _, _, _, _, _, _, _, _, _, _, _, _, _, _, _, _, _, _, _, _, rfl, H2.out.adv (y := y) HF.out (by rw [HGA.out, HGB.out]; exact HO2.out) HB2.out H2.out.ra HT.out.1 H2.out.ca HT.out.2 (by have h := HIO.out; rw [inL_cons, if_pos HY.out] at h; exact h) (by rw [comp_nil, comp_nil]) (by simp <;> omega)⟩, ?_⟩
          show 0 + lb.length < _
          simp
      case neg =>
        have HT := Lib.hid (row_rest H2.out.rb hc1 HCB.out)
        go_wp2_with fail
        go_region_law (refine step_append_link_drew w2 rfl (.tmp 35) (.tmp 39) rfl W0.heap.size (.slice Ac acc.length cc) acc.length _ H2.out.own a b w2.heap.size rfl HK2.out HSZ.out (by simp [Act.eval]) (by simp [Act.eval]) ?_; intro v' w' h1 h2 h3; obtain ⟨A2, cap2, rfl⟩ := own_form h1; have HO2 := Lib.hid h1; have HB2 := Lib.hid h2; clear h1 h2 h3)
        all_goals
          go_wp2
          go_step3
          simp only [Exit.then, Exit.inBlock, Exit.jump]
          refine ⟨rfl, ⟨_, _, _, [], lb, acc ++ [y], _, _, _, _, _, _, _, _, _, _, _, _, _, _, _, _, _, _, _, _, _, _, _, _, _, _, _, _, _, _, _, _, _, _, _, _, _, _, _, _, _, _, _, _, _, _, _, _, _, _, _, _, _, _, _, _, _, _, _, _, _, _, _, _, _, rfl, H2.out.adv (y := y) HF.out (by rw [HGA.out, HGB.out]; exact HO2.out) HB2.out H2.out.ra HT.out.1 H2.out.ca HT.out.2 (by have h := HIO.out; rw [inL_cons, if_pos HY.out] at h; exact h) (by rw [comp_nil, comp_nil]) (by simp <;> omega)⟩, ?_⟩
          show 0 + lb.length < _
          simp
  | cons x la =>
    obtain ⟨ga, oa, rfl, _, ac0, ac1⟩ := row_head H.out.ra
    have hio := H.out.io
    by_cases hx : x.Out = 0
    case pos =>
      have hdx : delK x = true := by unfold delK; rw [hx]; rfl
      have CX := Lib.hid (HA.out x)
      rw [hdx] at CX
      unfold lkV at CX
      clear HA HP
      generalize hga : (x.In.toNat : Int) = a at *
      generalize hgb : (x.Out.toNat : Int) = b at *
      go_wp2_with fail
      refine (CX.out _).mono ?_
      rintro e w2 ⟨rfl, hb2⟩
      have H2 := Lib.hid (H.out.kept hb2)
      obtain ⟨g2, off2, hge, _, d0, d1⟩ := row_head H2.out.ra
      obtain ⟨rfl, rfl⟩ : ga = g2 ∧ oa = off2 := by cases hge; exact ⟨rfl, rfl⟩
      rw [hga] at d0
      rw [hgb] at d1
      have HGA := Lib.hid hga
      have HGB := Lib.hid hgb
      have HX := Lib.hid hx
      have HIO := Lib.hid hio
      clear hga hgb hx hio hdx hge
      have HSZ : Hid (W0.heap.size ≤ w2.heap.size) := H2.out.bel.size
      have HK2 : Hid (acc.length ≤ 2000000) := by unfold Hid; omega
      clear hb2 ac0 ac1 H
      have HCA : Hid (la.length + 1 ≤ ca) := hca
      have hb1 : (1 : Int) ≤ (la.length : Int) + 1 := by omega
      by_cases hc1 : ca = 1
      case pos =>
        have HT := Lib.hid (row_last H2.out.ra hc1 HCA.out)
        go_wp2_with fail
        go_region_law (refine step_append_link_drew w2 rfl (.tmp 17) (.tmp 21) rfl W0.heap.size (.slice Ac acc.length cc) acc.length _ H2.out.own a b w2.heap.size rfl HK2.out HSZ.out (by simp [Act.eval]) (by simp [Act.eval]) ?_; intro v' w' h1 h2 h3; obtain ⟨A2, cap2, rfl⟩ := own_form h1; have HO2 := Lib.hid h1; have HB2 := Lib.hid h2; clear h1 h2 h3)
        all_goals
          go_wp2
          go_step3
          simp only [Exit.then, Exit.inBlock, Exit.jump]
          refine ⟨rfl, ⟨_, _, _, la, lb, acc ++ [x], _, _, _, _, _, _, _, _, _, _, _, _, _, _, _, _, _, _, _, _, _, _, _, _, _, _, _, _, _, _, _, _, _, _, _, _, _, _, _, _, _, _, _, _, _, _, _, _, _, _, _, _, _, _, _, _, _, _, _, _, _, _, _, _, _, rfl, H2.out.adv (y := x) HF.out (by rw [HGA.out, HGB.out]; exact HO2.out) HB2.out HT.out.1 H2.out.rb HT.out.2 H2.out.cb (by have h := HIO.out; rw [outL_cons, if_pos HX.out] at h; exact h) (comp_away HX.out) (by simp <;> omega)⟩, ?_⟩
          show la.length + lb.length < _
          simp
      case neg =>
        have HT := Lib.hid (row_rest H2.out.ra hc1 HCA.out)
        go_wp2_with fail
        go_region_law (refine step_append_link_drew w2 rfl (.tmp 17) (.tmp 21) rfl W0.heap.size (.slice Ac acc.length cc) acc.length _ H2.out.own a b w2.heap.size rfl HK2.out HSZ.out (by simp [Act.eval]) (by simp [Act.eval]) ?_; intro v' w' h1 h2 h3; obtain ⟨A2, cap2, rfl⟩ := own_form h1; have HO2 := Lib.hid h1; have HB2 := Lib.hid h2; clear h1 h2 h3)
        all_goals
          go_wp2
          go_step3
          simp only [Exit.then, Exit.inBlock, Exit.jump]
          refine ⟨rfl, ⟨_, _, _, la, lb, acc ++ [x], _, _, _, _, _, _, _, _, _, _, _, _, _, _, _, _, _, _, _, _, _, _, _, _, _, _, _, _, _, _, _, _, _, _, _, _, _, _, _, _, _, _, _, _, _, _, _, _, _, _, _, _, _, _, _, _, _, _, _, _, _, _, _, _, _, rfl, H2.out.adv (y := x) HF.out (by rw [HGA.out, HGB.out]; exact HO2.out) HB2.out HT.out.1 H2.out.rb HT.out.2 H2.out.cb (by have h := HIO.out; rw [outL_cons, if_pos HX.out] at h; exact h) (comp_away HX.out) (by simp <;> omega)⟩, ?_⟩
          show la.length + lb.length < _
          simp
    case neg =>
      have hdx : delK x = false := by unfold delK; exact decide_eq_false fun e => hx ((u8_zero _).1 e)
      have CX := Lib.hid (HA.out x)
      rw [hdx] at CX
      unfold lkV at CX
      cases lb with
      | nil => rw [outL_cons, if_neg hx] at hio; cases hio
      | cons y lb =>
      obtain ⟨gb, ob, rfl, _, bc0, bc1⟩ := row_head H.out.rb
      generalize hgx : (x.In.toNat : Int) = xa at *
      generalize hgo : (x.Out.toNat : Int) = xo at *
      go_wp2_with fail
      refine (CX.out _).mono ?_
      rintro e w1 ⟨rfl, hb1⟩
      have H1 := Lib.hid (H.out.kept hb1)
      obtain ⟨g2, off2, hge, _, ad0, ad1⟩ := row_head H1.out.ra
      obtain ⟨rfl, rfl⟩ : ga = g2 ∧ oa = off2 := by cases hge; exact ⟨rfl, rfl⟩
      obtain ⟨g3, off3, hge3, _, bd0, bd1⟩ := row_head H1.out.rb
      obtain ⟨rfl, rfl⟩ : gb = g3 ∧ ob = off3 := by cases hge3; exact ⟨rfl, rfl⟩
      clear hge hge3 hb1 H ac0 ac1 bc0 bc1 CX hdx
      have HIO := Lib.hid hio
      have HX := Lib.hid hx
      clear hio hx HA
      by_cases hy : y.In = 0
      case pos =>
        have hiy : insK y = true := by unfold insK; rw [hy]; rfl
        have CY := Lib.hid (HP.out y)
        rw [hiy] at CY
        unfold lkV at CY
        clear HP
        generalize hga : (y.In.toNat : Int) = a at *
        generalize hgb : (y.Out.toNat : Int) = b at *
        have HY := Lib.hid hy
        clear hy hiy
        go_wp2_with fail
        refine (CY.out _).mono ?_
        rintro e w2 ⟨rfl, hb2⟩
        have H2 := Lib.hid (H1.out.kept hb2)
        obtain ⟨g3, off3, hge3, _, d0, d1⟩ := row_head H2.out.rb
        obtain ⟨rfl, rfl⟩ : gb = g3 ∧ ob = off3 := by cases hge3; exact ⟨rfl, rfl⟩
        rw [hga] at d0
        rw [hgb] at d1
        have HGA := Lib.hid hga
        have HGB := Lib.hid hgb
        clear hga hgb hge3 hb2 ad0 ad1 bd0 bd1 H1 hgx hgo
        have HSZ : Hid (W0.heap.size ≤ w2.heap.size) := H2.out.bel.size
        have HK2 : Hid (acc.length ≤ 2000000) := by unfold Hid; omega
        have HCB : Hid (lb.length + 1 ≤ cb) := hcb
        have hb1 : (1 : Int) ≤ (lb.length : Int) + 1 := by omega
        by_cases hc1 : cb = 1
        case pos =>
          have HT := Lib.hid (row_last H2.out.rb hc1 HCB.out)
          go_wp2_with fail
          go_region_law (refine step_append_link_drew w2 rfl (.tmp 35) (.tmp 39) rfl W0.heap.size (.slice Ac acc.length cc) acc.length _ H2.out.own a b w2.heap.size rfl HK2.out HSZ.out (by simp [Act.eval]) (by simp [Act.eval]) ?_; intro v' w' h1 h2 h3; obtain ⟨A2, cap2, rfl⟩ := own_form h1; have HO2 := Lib.hid h1; have HB2 := Lib.hid h2; clear h1 h2 h3)
          all_goals
            go_wp2
            go_step3
            simp only [Exit.then, Exit.inBlock, Exit.jump]
            refine ⟨rfl, ⟨_, _, _, x :: la, lb, acc ++ [y], _, _, _, _, _, _, _, _, _, _, _, _, _, _, _, _, _, _, _, _, _, _, _, _, _, _, _, _, _, _, _, _, _, _, _, _, _, _, _, _, _, _, _, _, _, _, _, _, _, _, _, _, _, _, _, _, _, _, _, _, _, _, _, _, _, rfl, H2.out.adv (y := y) HF.out (by rw [HGA.out, HGB.out]; exact HO2.out) HB2.out H2.out.ra HT.out.1 H2.out.ca HT.out.2 (by have h := HIO.out; rw [inL_cons, if_pos HY.out] at h; exact h) (comp_put HX.out HY.out) (by simp <;> omega)⟩, ?_⟩
            show (la.length + 1) + lb.length < _
            simp
        case neg =>
          have HT := Lib.hid (row_rest H2.out.rb hc1 HCB.out)
          go_wp2_with fail
          go_region_law (refine step_append_link_drew w2 rfl (.tmp 35) (.tmp 39) rfl W0.heap.size (.slice Ac acc.length cc) acc.length _ H2.out.own a b w2.heap.size rfl HK2.out HSZ.out (by simp [Act.eval]) (by simp [Act.eval]) ?_; intro v' w' h1 h2 h3; obtain ⟨A2, cap2, rfl⟩ := own_form h1; have HO2 := Lib.hid h1; have HB2 := Lib.hid h2; clear h1 h2 h3)
          all_goals
            go_wp2
            go_step3
            simp only [Exit.then, Exit.inBlock, Exit.jump]
            refine ⟨rfl, ⟨_, _, _, x :: la, lb, acc ++ [y], _, _, _, _, _, _, _, _, _, _, _, _, _, _, _, _, _, _, _, _, _, _, _, _, _, _, _, _, _, _, _, _, _, _, _, _, _, _, _, _, _, _, _, _, _, _, _, _, _, _, _, _, _, _, _, _, _, _, _, _, _, _, _, _, _, rfl, H2.out.adv (y := y) HF.out (by rw [HGA.out, HGB.out]; exact HO2.out) HB2.out H2.out.ra HT.out.1 H2.out.ca HT.out.2 (by have h := HIO.out; rw [inL_cons, if_pos HY.out] at h; exact h) (comp_put HX.out HY.out) (by simp <;> omega)⟩, ?_⟩
            show (la.length + 1) + lb.length < _
            simp
      case neg =>
        have hiy : insK y = false := by unfold insK; exact decide_eq_false fun e => hy ((u8_zero _).1 e)
        have CY := Lib.hid (HP.out y)
        rw [hiy] at CY
        unfold lkV at CY
        clear HP
        generalize hga : (y.In.toNat : Int) = a at *
        generalize hgb : (y.Out.toNat : Int) = b at *
        have HY := Lib.hid hy
        clear hy hiy
        go_wp2_with fail
        refine (CY.out _).mono ?_
        rintro e w2 ⟨rfl, hb2⟩
        have H2 := Lib.hid (H1.out.kept hb2)
        obtain ⟨g4, off4, hge4, _, ac0, ac1⟩ := row_head H2.out.ra
        obtain ⟨rfl, rfl⟩ : ga = g4 ∧ oa = off4 := by cases hge4; exact ⟨rfl, rfl⟩
        obtain ⟨g3, off3, hge3, _, d0, d1⟩ := row_head H2.out.rb
        obtain ⟨rfl, rfl⟩ : gb = g3 ∧ ob = off3 := by cases hge3; exact ⟨rfl, rfl⟩
        rw [hga] at d0
        rw [hgb] at d1
        rw [hgx] at ac0
        rw [hgo] at ac1
        have HGB := Lib.hid hgb
        have HGX := Lib.hid hgx
        clear hga hgb hge3 hge4 hb2 ad0 ad1 bd0 bd1 H1 hgx hgo
        have HSZ : Hid (W0.heap.size ≤ w2.heap.size) := H2.out.bel.size
        have HK2 : Hid (acc.length ≤ 2000000) := by unfold Hid; omega
        have hca2 : ∀ o, (w2.alloc o).cell? ⟨ga, oa, none⟩ = some (.int .u8 xa) := fun o => (((Below.refl _ _).alloc (Nat.le_refl _) o).cell (block_lt_of_cell ac0)).trans ac0
        have hcb2 : ∀ o, (w2.alloc o).cell? ⟨gb, ob + 1, none⟩ = some (.int .u8 b) := fun o => (((Below.refl _ _).alloc (Nat.le_refl _) o).cell (block_lt_of_cell d1)).trans d1
        go_upto_region 7 with fail
        go_cut [6] from 47 to 55 (fun p wx => p = .pointer (some ⟨w2.heap.size, 0, none⟩) ∧ wx.heap = (w2.alloc (.cells #[.int .u8 xa, .int .u8 b] 40)).heap ∧ Below w2.heap.size w2 wx)
        case first =>
          go_region
          all_goals
            go_wp2_with fail
            go_meet
            exact ⟨rfl, rfl, Below6.drew ((Below.refl _ _).alloc (Nat.le_refl _) _)⟩
        case rest =>
        obtain ⟨rfl, hwc, hbc⟩ := hcut
        have H3 := Lib.hid (H2.out.kept hbc)
        have HXC : Hid (InC wc w2.heap.size #[.int .u8 xa, .int .u8 b] 40) := inC_heap9 (heap_alloc_new w2 _) hwc
        have HS3 : Hid (W0.heap.size ≤ wc.heap.size) := H3.out.bel.size
        clear hwc hbc hca2 hcb2 ac0 ac1 d0 d1
        have x0 := HXC.out.cell 0 rfl
        have x1 := HXC.out.cell 1 rfl
        have hg := eqGuardL9
        have hef := equalL9 xa b 0 0
        have HCA : Hid (la.length + 1 ≤ ca) := hca
        have HCB : Hid (lb.length + 1 ≤ cb) := hcb
        have hb1 : (1 : Int) ≤ (la.length : Int) + 1 := by omega
        have hb2 : (1 : Int) ≤ (lb.length : Int) + 1 := by omega
        by_cases hz : xa = 0 ∧ b = 0
        case pos =>
          have hdz : decide (xa = 0 ∧ b = 0) = true := decide_eq_true hz
          rw [hdz] at hef
          have HZ : Hid (x.In = 0 ∧ y.Out = 0) := ⟨(u8_zero _).1 (by rw [HGX.out]; exact hz.1), (u8_zero _).1 (by rw [HGB.out]; exact hz.2)⟩
          clear hz hdz
          by_cases hc1 : ca = 1
          case pos =>
            have HTA := Lib.hid (row_last H3.out.ra hc1 HCA.out)
            by_cases hc2 : cb = 1
            case pos =>
              have HTB := Lib.hid (row_last H3.out.rb hc2 HCB.out)
              go_wp2
              go_region
              all_goals
                go_wp2
                go_step3
                simp only [Exit.then, Exit.inBlock, Exit.jump]
                refine ⟨rfl, ⟨_, _, _, la, lb, acc, _, _, _, _, _, _, _, _, _, _, _, _, _, _, _, _, _, _, _, _, _, _, _, _, _, _, _, _, _, _, _, _, _, _, _, _, _, _, _, _, _, _, _, _, _, _, _, _, _, _, _, _, _, _, _, _, _, _, _, _, _, _, _, _, _, rfl, H3.out.pass HF.out (by first | exact Below.refl _ _ | exact (Below.refl _ _).drew) HTA.out.1 HTB.out.1 HTA.out.2 HTB.out.2 (by have h := HIO.out; rw [outL_cons, if_neg HX.out, inL_cons, if_neg HY.out] at h; injection h) (comp_none HX.out HY.out HZ.out) (by simp; omega)⟩, ?_⟩
                show la.length + lb.length < _
                simp
                omega
            case neg =>
              have HTB := Lib.hid (row_rest H3.out.rb hc2 HCB.out)
              go_wp2
              go_region
              all_goals
                go_wp2
                go_step3
                simp only [Exit.then, Exit.inBlock, Exit.jump]
                refine ⟨rfl, ⟨_, _, _, la, lb, acc, _, _, _, _, _, _, _, _, _, _, _, _, _, _, _, _, _, _, _, _, _, _, _, _, _, _, _, _, _, _, _, _, _, _, _, _, _, _, _, _, _, _, _, _, _, _, _, _, _, _, _, _, _, _, _, _, _, _, _, _, _, _, _, _, _, rfl, H3.out.pass HF.out (by first | exact Below.refl _ _ | exact (Below.refl _ _).drew) HTA.out.1 HTB.out.1 HTA.out.2 HTB.out.2 (by have h := HIO.out; rw [outL_cons, if_neg HX.out, inL_cons, if_neg HY.out] at h; injection h) (comp_none HX.out HY.out HZ.out) (by simp; omega)⟩, ?_⟩
                show la.length + lb.length < _
                simp
                omega
          case neg =>
            have HTA := Lib.hid (row_rest H3.out.ra hc1 HCA.out)
            by_cases hc2 : cb = 1
            case pos =>
              have HTB := Lib.hid (row_last H3.out.rb hc2 HCB.out)
              go_wp2
              go_region
              all_goals
                go_wp2
                go_step3
                simp only [Exit.then, Exit.inBlock, Exit.jump]
                refine ⟨rfl, ⟨_, _, _, la, lb, acc, _, _, _, _, _, _, _, _, _, _, _, _, _, _, _, _, _, _, _, _, _, _, _, _, _, _, _, _, _, _, _, _, _, _, _, _, _, _, _, _, _, _, _, _, _, _, _, _, _, _, _, _, _, _, _, _, _, _, _, _, _, _, _, _, _, rfl, H3.out.pass HF.out (by first | exact Below.refl _ _ | exact (Below.refl _ _).drew) HTA.out.1 HTB.out.1 HTA.out.2 HTB.out.2 (by have h := HIO.out; rw [outL_cons, if_neg HX.out, inL_cons, if_neg HY.out] at h; injection h) (comp_none HX.out HY.out HZ.out) (by simp; omega)⟩, ?_⟩
                show la.length + lb.length < _
                simp
                omega
            case neg =>
              have HTB := Lib.hid (row_rest H3.out.rb hc2 HCB.out)
              go_wp2
              go_region
              all_goals
                go_wp2
                go_step3
                simp only [Exit.then, Exit.inBlock, Exit.jump]
                refine ⟨rfl, ⟨_, _, _, la, lb, acc, _, _, _, _, _, _, _, _, _, _, _, _, _, _, _, _, _, _, _, _, _, _, _, _, _, _, _, _, _, _, _, _, _, _, _, _, _, _, _, _, _, _, _, _, _, _, _, _, _, _, _, _, _, _, _, _, _, _, _, _, _, _, _, _, _, rfl, H3.out.pass HF.out (by first | exact Below.refl _ _ | exact (Below.refl _ _).drew) HTA.out.1 HTB.out.1 HTA.out.2 HTB.out.2 (by have h := HIO.out; rw [outL_cons, if_neg HX.out, inL_cons, if_neg HY.out] at h; injection h) (comp_none HX.out HY.out HZ.out) (by simp; omega)⟩, ?_⟩
                show la.length + lb.length < _
                simp
                omega
        case neg =>
          have hdz : decide (xa = 0 ∧ b = 0) = false := decide_eq_false hz
          rw [hdz] at hef
          have HZ : Hid (¬ (x.In = 0 ∧ y.Out = 0)) := fun e => hz ⟨by rw [← HGX.out, e.1]; rfl, by rw [← HGB.out, e.2]; rfl⟩
          clear hz hdz
          go_wp2_with (at_builtin; refine wpList_append_link wc rfl (.tmp 59) (.tmp 61) rfl W0.heap.size (.slice Ac acc.length cc) acc.length _ H3.out.own xa b _ (by simp) HK2.out HS3.out rfl rfl ?_; intro v' w4 h1 h2 h3; obtain ⟨A2, cap2, rfl⟩ := own_form h1; have HO2 := Lib.hid h1; have HB2 := Lib.hid h2; clear h1 h2 h3)
          by_cases hc1 : ca = 1
          case pos =>
            have HTA := Lib.hid (row_last H3.out.ra hc1 HCA.out)
            by_cases hc2 : cb = 1
            case pos =>
              have HTB := Lib.hid (row_last H3.out.rb hc2 HCB.out)
              go_wp2
              go_region
              all_goals
                go_wp2
                go_step3
                simp only [Exit.then, Exit.inBlock, Exit.jump]
                refine ⟨rfl, ⟨_, _, _, la, lb, acc ++ [⟨x.In, y.Out⟩], _, _, _, _, _, _, _, _, _, _, _, _, _, _, _, _, _, _, _, _, _, _, _, _, _, _, _, _, _, _, _, _, _, _, _, _, _, _, _, _, _, _, _, _, _, _, _, _, _, _, _, _, _, _, _, _, _, _, _, _, _, _, _, _, _, rfl, H3.out.adv (y := ⟨x.In, y.Out⟩) HF.out (by first | (show World.ownsRow _ _ _ _ _ _ (acc.flatMap lkC ++ [.int .u8 (x.In.toNat : Int), .int .u8 (y.Out.toNat : Int)]); rw [HGX.out, HGB.out]; first | exact HO2.out | exact own_keep HO2.out (Below.refl _ _).drew)) (by first | exact HB2.out | exact Below6.drew HB2.out) HTA.out.1 HTB.out.1 HTA.out.2 HTB.out.2 (by have h := HIO.out; rw [outL_cons, if_neg HX.out, inL_cons, if_neg HY.out] at h; injection h) (comp_both HX.out HY.out HZ.out) (by simp; omega)⟩, ?_⟩
                show la.length + lb.length < _
                simp
                omega
            case neg =>
              have HTB := Lib.hid (row_rest H3.out.rb hc2 HCB.out)
              go_wp2
              go_region
              all_goals
                go_wp2
                go_step3
                simp only [Exit.then, Exit.inBlock, Exit.jump]
                refine ⟨rfl, ⟨_, _, _, la, lb, acc ++ [⟨x.In, y.Out⟩], _, _, _, _, _, _, _, _, _, _, _, _, _, _, _, _, _, _, _, _, _, _, _, _, _, _, _, _, _, _, _, _, _, _, _, _, _, _, _, _, _, _, _, _, _, _, _, _, _, _, _, _, _, _, _, _, _, _, _, _, _, _, _, _, _, rfl, H3.out.adv (y := ⟨x.In, y.Out⟩) HF.out (by first | (show World.ownsRow _ _ _ _ _ _ (acc.flatMap lkC ++ [.int .u8 (x.In.toNat : Int), .int .u8 (y.Out.toNat : Int)]); rw [HGX.out, HGB.out]; first | exact HO2.out | exact own_keep HO2.out (Below.refl _ _).drew)) (by first | exact HB2.out | exact Below6.drew HB2.out) HTA.out.1 HTB.out.1 HTA.out.2 HTB.out.2 (by have h := HIO.out; rw [outL_cons, if_neg HX.out, inL_cons, if_neg HY.out] at h; injection h) (comp_both HX.out HY.out HZ.out) (by simp; omega)⟩, ?_⟩
                show la.length + lb.length < _
                simp
                omega
          case neg =>
            have HTA := Lib.hid (row_rest H3.out.ra hc1 HCA.out)
            by_cases hc2 : cb = 1
            case pos =>
              have HTB := Lib.hid (row_last H3.out.rb hc2 HCB.out)
              go_wp2
              go_region
              all_goals
                go_wp2
                go_step3
                simp only [Exit.then, Exit.inBlock, Exit.jump]
                refine ⟨rfl, ⟨_, _, _, la, lb, acc ++ [⟨x.In, y.Out⟩], _, _, _, _, _, _, _, _, _, _, _, _, _, _, _, _, _, _, _, _, _, _, _, _, _, _, _, _, _, _, _, _, _, _, _, _, _, _, _, _, _, _, _, _, _, _, _, _, _, _, _, _, _, _, _, _, _, _, _, _, _, _, _, _, _, rfl, H3.out.adv (y := ⟨x.In, y.Out⟩) HF.out (by first | (show World.ownsRow _ _ _ _ _ _ (acc.flatMap lkC ++ [.int .u8 (x.In.toNat : Int), .int .u8 (y.Out.toNat : Int)]); rw [HGX.out, HGB.out]; first | exact HO2.out | exact own_keep HO2.out (Below.refl _ _).drew)) (by first | exact HB2.out | exact Below6.drew HB2.out) HTA.out.1 HTB.out.1 HTA.out.2 HTB.out.2 (by have h := HIO.out; rw [outL_cons, if_neg HX.out, inL_cons, if_neg HY.out] at h; injection h) (comp_both HX.out HY.out HZ.out) (by simp; omega)⟩, ?_⟩
                show la.length + lb.length < _
                simp
                omega
            case neg =>
              have HTB := Lib.hid (row_rest H3.out.rb hc2 HCB.out)
              go_wp2
              go_region
              all_goals
                go_wp2
                go_step3
                simp only [Exit.then, Exit.inBlock, Exit.jump]
                refine ⟨rfl, ⟨_, _, _, la, lb, acc ++ [⟨x.In, y.Out⟩], _, _, _, _, _, _, _, _, _, _, _, _, _, _, _, _, _, _, _, _, _, _, _, _, _, _, _, _, _, _, _, _, _, _, _, _, _, _, _, _, _, _, _, _, _, _, _, _, _, _, _, _, _, _, _, _, _, _, _, _, _, _, _, _, _, rfl, H3.out.adv (y := ⟨x.In, y.Out⟩) HF.out (by first | (show World.ownsRow _ _ _ _ _ _ (acc.flatMap lkC ++ [.int .u8 (x.In.toNat : Int), .int .u8 (y.Out.toNat : Int)]); rw [HGX.out, HGB.out]; first | exact HO2.out | exact own_keep HO2.out (Below.refl _ _).drew)) (by first | exact HB2.out | exact Below6.drew HB2.out) HTA.out.1 HTB.out.1 HTA.out.2 HTB.out.2 (by have h := HIO.out; rw [outL_cons, if_neg HX.out, inL_cons, if_neg HY.out] at h; injection h) (comp_both HX.out HY.out HZ.out) (by simp; omega)⟩, ?_⟩
                show la.length + lb.length < _
                simp
                omega
end Go.Proofs.Ytfcmhbbeohhjmaa
