/- The program's candidate of a linkList: what it answers. -/
import Derived.Test.YtlekcnddejnejaaIk1
import Derived.Test.YtlekcnddejnejaaTtLinkS
import Derived.Laws.CopyRow
import Derived.Laws.CopyOwn
import Derived.Laws.ResultCell
namespace Go.Proofs.Ytlekcnddejnejaa
open Go.RowKit M
set_option linter.unusedVariables false
set_option linter.unusedSimpArgs false

theorem run_copy_row2 {P : Program} (w : World) (dT sT ty elem : TypeId) (g dLen dCap : Nat) (a : Addr) (sLen sCap : Nat) (cur : Array Value) (t : TypeId) (cs : List Value)
    (hu : P.underlying dT = some (.slice elem)) (hs : (P.info? elem).map (·.size) = some 2)
    (hg : w.heap[g]? = some (.cells cur t (0, 0))) (hn : cs.length = Nat.min sLen dLen * 2)
    (hsrc : ∀ j v, cs[j]? = some v → w.cell? (a.add j) = some v) (hfit : cs.length = cur.size) (h1 : ∀ v ∈ cs, v.oneCell' = true) :
    (Builtin.copy_ #[dT, sT] ty #[.slice (some ⟨g, 0, none⟩) dLen dCap, .slice (some a) sLen sCap]).run P w =
      .ok (goInt (Nat.min sLen dLen)) (w.setRow g cs.toArray) := by
  have hl := run_loadCells_list (P := P) w a cs hsrc
  have hst := run_storeCells_at P g 0 t cs 0 cur w hg (by simp; omega) h1
  have e : (cur.toList.take (0 + 0) ++ cs ++ cur.toList.drop (0 + 0 + cs.length)).toArray = cs.toArray := by
    rw [hfit]; simp
  rw [e] at hst
  cases hq : P.info? elem with
  | none => simp [hq] at hs
  | some i =>
    have hi : i.size = 2 := by simpa [hq] using hs
    simp [Builtin.copy_, run_underlying hu, Builtin.lenOf, Builtin.firstCells, sizeOf, typeInfo, hq, hi, ← hn, hl, hst]
theorem wpList_copy_row2 {P : Program} {ops : Array Oper} {rest : List Oper} {o : Oper} {a : Act} {Q : Exit → Act → World → Prop} (w : World) (hgd : o.guard = none) (d s : Operand) (dT sT : TypeId)
    (ho : o.op = .call { callee := .builtin .copy, args := #[d, s], argTypes := #[dT, sT] }) (elem : TypeId) (hu : P.underlying dT = some (.slice elem)) (hsz : (P.info? elem).map (·.size) = some 2)
    (g dLen dCap : Nat) (ad : Addr) (sLen sCap : Nat) (hd : a.eval d = .slice (some ⟨g, 0, none⟩) dLen dCap) (hs : a.eval s = .slice (some ad) sLen sCap)
    (cur : Array Value) (t : TypeId) (hg : w.heap[g]? = some (.cells cur t (0, 0))) (cs : List Value) (hn : cs.length = Nat.min sLen dLen * 2)
    (hsrc : ∀ j v, cs[j]? = some v → w.cell? (ad.add j) = some v) (hfit : cs.length = cur.size) (h1 : ∀ v ∈ cs, v.oneCell' = true)
    (h : ∀ w', w'.heap[g]? = some (.cells cs.toArray t (0, 0)) → Touch g w w' → wpList P ops Q rest (a.put o.dst (goInt (Nat.min sLen dLen))) w') : wpList P ops Q (o :: rest) a w := by
  refine wpList_plain hgd fun K hK => ?_
  have hrun := run_copy_row2 (P := P) w dT sT o.type elem g dLen dCap ad sLen sCap cur t cs hu hsz hg hn hsrc hfit h1
  unfold Oper.wp
  simp [execOp, ho, resolve, invoke, builtin, hd, hs, hrun, Result.andThen]
  exact hK _ _ (h _ (setRow_heap w g _ _ t _ hg) ⟨rfl, rfl, rfl, by simp [World.setRow], fun k hk => setRow_other w g k _ (by omega)⟩)
theorem results_cell_rt {P : Program} {fn : Func} {p u : Tmp} {ty : TypeId} (h : fn.results = #[.cell p ty, .tmp u]) (tmps : Array Value) (w : World) (g : Nat) (t : TypeId) (cs : Array Value) (fr : Nat × Nat) (d : TypeDesc)
    (hp : tmps.getD p undef = .pointer (some ⟨g, 0, none⟩)) (hg : w.heap[g]? = some (.cells cs t fr))
    (hu : P.underlying ty = some d) (hd : (match d with | .struct _ | .array _ _ => true | _ => false) = true) (hi : (P.info? ty).map (·.size) = some cs.size) :
    (results fn tmps).run P w = .ok (.tuple #[.agg cs, tmps.getD u undef]) w := by
  have hp' : tmps[p]?.getD undef = .pointer (some ⟨g, 0, none⟩) := by simpa using hp
  rw [results_cell_tmp h]
  simp [hp', asAddr, run_loadVar_row w g t ty cs fr d hg hu hd hi, Result.andThen]
theorem infoCd1 : (Try.prog.info? 29).map (·.size) = some 1 := by kernel_rfl
theorem lkC_one (ls : List DLink) : ∀ v ∈ ls.flatMap lkC, v.oneCell' = true := by
  intro v hv
  rw [List.mem_flatMap] at hv
  obtain ⟨x, _, hx⟩ := hv
  simp [lkC] at hx
  rcases hx with rfl | rfl <;> rfl
theorem lkC_at : ∀ (ls : List DLink) (k : Nat) {x : DLink}, ls[k]? = some x → ∀ j u, (lkC x)[j]? = some u → (ls.flatMap lkC)[k * 2 + j]? = some u
  | [], k, x, h, j, u, hu => by simp at h
  | y :: ls, 0, x, h, j, u, hu => by
    simp at h; subst h
    rw [List.flatMap_cons, List.getElem?_append_left (by have := (List.getElem?_eq_some_iff.1 hu).1; simpa using this)]
    simpa using hu
  | y :: ls, k + 1, x, h, j, u, hu => by
    rw [List.flatMap_cons, List.getElem?_append_right (by simp [lkC]; omega)]
    have := lkC_at ls k (by simpa using h) j u hu
    rw [show (k + 1) * 2 + j - (lkC y).length = k * 2 + j by simp [lkC]; omega]
    exact this
/-- A row of links that lies whole in a block. -/
theorem RowRd.links {w : World} {B : Nat} {ls : List DLink} {t : TypeId} (h : InC w B (ls.flatMap lkC).toArray t) (hm : ls.length ≤ 1000000) {base : Nat} (hb : base ≤ B) :
    RowRd rLink true w (.slice (some ⟨B, 0, none⟩) ls.length ls.length) ls (fun a => base ≤ a.block) := by
  have hown : w.ownsRow base t rLink.size (.slice (some ⟨B, 0, none⟩) ls.length ls.length) ls.length (ls.flatMap lkC) := by
    refine ⟨by rw [lkC_len, rLink_size]; omega, Or.inr ⟨B, ls.length, (ls.flatMap lkC).toArray, rfl, hb, h, Nat.le_refl _, by unfold maxLen; omega, ?_, ?_⟩⟩
    · rw [List.size_toArray, lkC_len, rLink_size]; omega
    · rw [List.toList_toArray, List.take_of_length_le (by rw [lkC_len, rLink_size]; omega)]
  refine (RowRd.of_flat hown (by omega) ?_).mono (fun a ha => ha.1)
  intro k x hk
  refine ⟨lkC x, fun j u hj => by rw [rLink_size]; exact lkC_at ls k hk j u hj, rLink_mk⟩
theorem made_links {w w1 : World} {n cap : Nat} {c : List Value} {o : Obj} (hown : w1.ownsRow (w.heap.size + 1) 42 2 (.slice (some ⟨(w.alloc o).heap.size, 0, none⟩) n cap) n c) (hc : cap = n) (hgrow : (w.alloc o).grownBy w1 none) :
    (∃ cur, InC w1 (w.heap.size + 1) cur 42 ∧ cur.size = n * 2) ∧ Below (w.heap.size + 1) (w.alloc o) w1 := by
  have hs : (w.alloc o).heap.size = w.heap.size + 1 := by simp
  rw [hs] at hown
  subst hc
  refine ⟨?_, (Below.refl _ _).grown hgrow (by rw [hs]; exact Nat.le_refl _) (fun _ h => by cases h)⟩
  rcases hown.2 with ⟨h, _⟩ | ⟨g', cap', cur, hv, _, hg, _, _, hsz, _⟩
  · cases h
  · injection hv with e1 _ e3
    cases e1; subst e3
    exact ⟨cur, hg, hsz⟩
theorem infoLk2 : (Try.prog.info? 42).map (·.size) = some 2 := by kernel_rfl
def CndPost (ls : List DLink) (w : World) (e : Ending) (w' : World) : Prop := ∃ u, e = .returned (.agg #[u]) ∧ RowRd rLink true w' u ls (fun a => w.heap.size ≤ a.block) ∧ Below w.heap.size w w'
set_option maxHeartbeats 4000000 in
theorem implCnd_any (ls : List DLink) (g : Nat) (w : World) (hl : ls.length ≤ 16) (h : LkL w g ls) :
    Calls Try.prog 44 #[.pointer (some ⟨g, 0, none⟩)] w (CndPost ls w) := by
  have hu : (llL ls).toArray[32]? = some (.int .i64 (ls.length : Int)) := by simpa using llL_used ls hl
  have c32 : ∀ o, (w.alloc o).cell? ⟨g, 32, none⟩ = some (.int .i64 (ls.length : Int)) := fun o => InC.cell (InC.kept h ((Below.refl _ _).alloc (Nat.le_refl _) o)) 32 hu
  have HSRC : Hid (∀ w', InC w' g (llL ls).toArray 53 → ∀ j v, (ls.flatMap lkC)[j]? = some v → w'.cell? ((⟨g, 0, none⟩ : Addr).add j) = some v) := fun w' h' j v hv => by
    have hp : (⟨g, 0, none⟩ : Addr).add j = ⟨g, j, none⟩ := by unfold Addr.add; split <;> simp_all
    rw [hp]
    refine InC.cell h' j ?_
    rw [List.getElem?_toArray]
    unfold llL
    rw [List.getElem?_append_left (List.getElem?_eq_some_iff.1 hv).1]
    exact hv
  have HONE := Lib.hid (lkC_one ls)
  have HLEN := Lib.hid (lkC_len ls)
  have HROW : Hid (∀ w' B, InC w' B (ls.flatMap lkC).toArray 42 → w.heap.size ≤ B → RowRd rLink true w' (.slice (some ⟨B, 0, none⟩) ls.length ls.length) ls (fun a => w.heap.size ≤ a.block)) := fun w' B h1 h2 => RowRd.links h1 (by omega) h2
  have HP : Hid (∀ u w', RowRd rLink true w' u ls (fun a => w.heap.size ≤ a.block) → Below w.heap.size w w' → CndPost ls w (.returned (.agg #[u])) w') := fun u w' h1 h2 => ⟨u, rfl, h1, h2⟩
  have H := Lib.hid h
  have HLT : Hid (g < w.heap.size) := InC.lt h
  have H1A : Hid (∀ o, InC (w.alloc o) g (llL ls).toArray 53) := fun o => InC.kept h ((Below.refl _ _).alloc (Nat.le_refl _) o)
  have HMIN : Hid (Nat.min 16 ls.length = ls.length) := Nat.min_eq_right hl
  clear h hu
  obtain ⟨i0, hi, hz0, hz1, hz2⟩ := info_parts Try.infoTLink
  generalize hll : ls.length = n at *
  clear hll
  go_enter Try.func44, Try.ntmps44
  go_wp2_with (first | (at_make; refine wpList_make_full _ rfl _ _ 27 rfl (w.heap.size + 1) 42 i0 (.agg #[.int .u8 0, .int .u8 0]) 2 Try.underlying27 hi hz0 hz1 .i64 .i64 _ _ n rfl rfl rfl rfl (by rw [hz2]; omega) (by unfold maxLen; omega) (by simp) ?_; intro w1 hown1 hgrow1; obtain ⟨⟨cur, hcur, hsz⟩, hb1⟩ := made_links hown1 rfl hgrow1; have HCUR := Lib.hid hcur; have HSZ := Lib.hid hsz; have HB1 := Lib.hid hb1; have hlk1 := InC.keptB (H1A.out _) hb1 (by have := HLT.out; omega); have HLK1 := Lib.hid hlk1; have HBX1 := Lib.hid (InC.keptB (heap_alloc_new w _) hb1 (Nat.lt_succ_self _)); clear hown1 hgrow1 hcur hsz hb1 hlk1) | (refine wpList_copy_row2 w1 rfl (.tmp 9) (.tmp 13) 27 27 rfl 42 Try.underlying27 infoLk2 (w.heap.size + 1) n n ⟨g, 0, none⟩ 16 16 rfl rfl cur 42 HCUR.out (ls.flatMap lkC) (by rw [HLEN.out, HMIN.out]; omega) (HSRC.out w1 HLK1.out) (by rw [HLEN.out, HSZ.out]; omega) HONE.out ?_; intro w2 hg2 ht2; have HG2 := Lib.hid hg2; have HT2 := Lib.hid ht2; have hbx2 : InC w2 w.heap.size #[.slice none 0 0] 29 := ht2.inC (by omega) HBX1.out; have b2 := hbx2.cell 0 rfl; have f2 := hbx2.free 0; have HBX2 := Lib.hid hbx2; clear hg2 ht2 hbx2))
  have HB2 : Hid (Below w.heap.size w w2) := ((Below.refl _ _).alloc (Nat.le_refl _) _).trans ((HB1.out.mono (Nat.le_succ _)).trans (HT2.out.below (Nat.le_succ _)))
  refine bodyPost_ret (results_cell_row rfl _ _ w.heap.size _ _ _ _ rfl (HBX2.out.put 0 _) Try.underlying29 rfl infoCd1) rfl ?_
  exact HP.out _ _ (HROW.out _ (w.heap.size + 1) (InC.other HG2.out (by simp) _) (Nat.le_succ _)) (HB2.out.setCell (Nat.le_refl _) _)
end Go.Proofs.Ytlekcnddejnejaa
