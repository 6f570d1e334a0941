/- Merged: Rc3. -/
import Derived.Test.YtlkhknoaifbajaaB3
/- GOROUTINE 0: from the law's entry to its end; FnExactCountCandidates. -/
namespace Go.Proofs.Ytlkhknoaifbajaa
open Go.Conc Go.RowKit M
set_option linter.unusedVariables false
set_option linter.unusedSimpArgs false
set_option maxRecDepth 100000

/-- What a law must come to: it returns true, and old memory is as it was. -/
def EndPost (W0 : World) (a' : Goroutine) (w' : World) : Prop :=
  a'.status = .running ∧ ∀ d, ∃ v es, stepG Try.prog true a' (w'.at d) = .ended (.done v) (w'.at d) es ∧ (∀ e ∈ es, EvF w'.heap.size e) ∧ (v = .bool true ∧ Below W0.heap.size W0 (w'.at d))
/-- The law's own end. -/
theorem law_end {W0 w : World} {f : FuncId} {fn' : Func} {a : Act} {todo : List Item} {t : Tmp} (hf : Try.prog.funcs[f]? = some fn') (hres : fn'.results = #[.tmp t]) (hin : ¬ 2 = f) (hd : a.defers = []) (hv : a.tmps.getD t undef = .bool true) (hB : BM W0 w) :
    GoG Try.prog (sideM Try.prog (EndPost W0)) [] () (G { (base f).at a todo with mode := .returning } []) w := by
  refine goG_of_toM fun d => ToM.done ⟨rfl, fun d2 => ⟨.bool true, #[], ?_, by simp, rfl, ?_⟩⟩
  · have hr := results_tmp hres a.tmps Try.prog (((w.at d).at d2))
    have he := events_results_tmp (P := Try.prog) (w := (w.at d).at d2) hres a.tmps #[]
    rw [hv] at hr
    simp [G, stepG, unwind, doReturn, Frame.at, base, hd, hf, hr, he, hin, GStep.after, seen_none]
  · have := hB.out
    exact ⟨this.os, this.tape, this.output, this.size, this.block⟩
/-- From the law's walk to the run. -/
theorem run_of_law {W0 : World} {f : FuncId} {fn' : Func} {x : Code} {args : Array Value} (hf : Try.prog.funcs[f]? = some fn') (hb : fn'.body = some x)
    (h : GoG Try.prog (sideM Try.prog (EndPost W0)) [] () (G ((base f).at { tmps := args ++ Array.replicate (fn'.ntmps - args.size) undef, defers := [] } [.code x]) []) W0) :
    ∃ N last o w' t', runNT Try.prog (N + 1) (solo (G (Frame.enter Try.prog f args .normal) []) W0) #[] = (.ended o w', t') ∧ Go.runN Try.prog N (solo (G (Frame.enter Try.prog f args .normal) []) W0) = .next last ∧ step Try.prog last = .ended o w' ∧ Go.Conc.Good Try.prog (fun v w' => v = .bool true ∧ Below W0.heap.size W0 w') last o w' t' := by
  rw [enter_at _ hf hb]
  exact good_of_toM (toM_of_goG h)
section
variable {s : ByteArray}
theorem okCount : okF 52 = true := by rfl
noncomputable def body5 : Code := Try.f5.body.getD .skip
set_option maxHeartbeats 4000000 in
theorem law_count (W0 : World) (hs : s.size ≤ maxLen) :
    GoG Try.prog (sideM Try.prog (EndPost W0)) [] () (G ((base 5).at { tmps := #[.string s, undef, undef, undef, undef, undef, undef, undef, undef, undef, undef, undef, undef, undef, undef], defers := [] } [.code body5]) []) W0 := by
  dsimp only [body5, Try.f5, Option.getD_some]
  have hF := HM.of_below (Below.refl W0.heap.size W0)
  refine goG_seq sideM_ok ?_
  refine goG_region sideM_ok ?_
  simp only [List.size_toArray, List.length_cons, List.length_nil, Nat.reduceAdd, Nat.zero_add, List.range, List.range.loop]
  refine goG_op rfl (by rfl) (by simp [base]) ?_
  intro wO hR K hK2
  replace hF := hF.rely hR
  clear hR
  go_simp
  refine hK2 _ _ ⟨?_, ?_⟩
  · rw [listed_nil (by simp [go_sem])]
    exact dmain_same (by simp)
  clear hK2 K
  try walk_nrm
  refine goG_nil sideM_ok ?_
  repeat (refine goG_seq sideM_ok ?_)
  refine goG_region sideM_ok ?_
  simp only [List.size_toArray, List.length_cons, List.length_nil, Nat.reduceAdd, Nat.zero_add, List.range, List.range.loop]
  refine goG_op rfl (by rfl) (by simp [base]) ?_
  intro wO hR K hK2
  replace hF := hF.rely hR
  clear hR
  go_simp
  refine hK2 _ _ ⟨?_, ?_⟩
  · rw [listed_nil (by simp [go_sem])]
    exact dmain_same (by simp)
  clear hK2 K
  try walk_nrm
  have hln := events_len_str
  refine goG_op rfl (by rfl) (by simp [base]) ?_
  intro wO hR K hK2
  replace hF := hF.rely hR
  clear hR
  go_simp
  refine hK2 _ _ ⟨?_, ?_⟩
  · rw [listed_nil (by simp [go_sem, *])]
    exact dmain_same (by simp)
  clear hK2 K
  try walk_nrm
  clear hln
  refine goG_op rfl (by rfl) (by simp [base]) ?_
  intro wO hR K hK2
  replace hF := hF.rely hR
  clear hR
  go_simp
  refine hK2 _ _ ⟨?_, ?_⟩
  · rw [listed_nil (by simp [go_sem])]
    exact dmain_same (by simp)
  clear hK2 K
  try walk_nrm
  refine goG_nil sideM_ok ?_
  by_cases hbig : (1048576 : Int) < (s.size : Int)
  · refine goG_cond sideM_ok (t := true) (by simp [Act.eval, hbig]) ?_
    simp only [if_true]
    repeat (refine goG_seq sideM_ok ?_)
    refine goG_region sideM_ok ?_
    simp only [List.size_toArray, List.length_cons, List.length_nil, Nat.reduceAdd, Nat.zero_add, List.range, List.range.loop]
    refine goG_op rfl (by rfl) (by simp [base]) ?_
    intro wO hR K hK2
    replace hF := hF.rely hR
    clear hR
    go_simp
    refine hK2 _ _ ⟨?_, ?_⟩
    · rw [listed_nil (by simp [go_sem])]
      exact dmain_same (by simp)
    clear hK2 K
    try walk_nrm
    refine goG_nil sideM_ok ?_
    refine goG_ret sideM_ok (by simp [base]) fun todo => ?_
    exact law_end Try.func5 (by rfl) (by decide) rfl (by simp) hF
  · have hle : s.size ≤ 1048576 := by omega
    refine goG_cond sideM_ok (t := false) (by simp [Act.eval, hbig]) ?_
    simp only [Bool.false_eq_true, if_false]
    refine goG_skip sideM_ok (by simp [base]) ?_
    repeat (refine goG_seq sideM_ok ?_)
    refine goG_piece (xs := []) (ys := []) (fn := 5) rfl (by simp [base]) (Q := fun ex a' w' _ => ex = .normal ∧ (∃ x7 x8 x9, a' = { tmps := #[.string s, undef, .bool false, .int .i64 (cntG s : Nat), undef, .string s, .int .i64 (s.size : Int), x7, x8, x9, undef, undef, undef, undef, undef], defers := [] }) ∧ BM W0 w') ?call ?rest
    case call =>
      refine g_region sideM_ok ?_
      simp only [List.size_toArray, List.length_cons, List.length_nil, Nat.reduceAdd, Nat.zero_add, List.range, List.range.loop]
      refine g_cons_k rfl (by rfl) ?_
      intro wO hR K hK2
      replace hF := hF.rely hR
      clear hR
      go_simp
      refine hK2 _ _ ⟨?_, ?_⟩
      · rw [listed_nil (by simp [go_sem])]
        exact dmain_same (by simp)
      clear hK2 K
      try walk_nrm
      refine m_lone (w := wO) (Rr := fun v w' => v = .int .i64 (cntG s : Nat) ∧ wO.heap.size ≤ w'.heap.size ∧ (∀ k, k < wO.heap.size → w'.heap[k]? = wO.heap[k]?) ∧ w'.os = wO.os) goodP okCount Try.func52 (by rfl) (by rfl) (by rfl) rfl (by rfl) rfl ?_ ?_ ?_
      · rintro v W τ d o τ' d' o' ⟨h1, h2, h3, h4⟩
        exact ⟨h1, h2, h3, h4⟩
      · intro τ d o
        walk_nrm
        refine (specCount_any s _ hle).mono ?_
        rintro e w2 ⟨rfl, hb⟩
        exact ⟨_, rfl, rfl, hb.size, hb.block, hb.os⟩
      rintro v w2 ht ho ⟨rfl, hsz, hh, hos⟩
      replace hF : BM W0 w2 := ⟨⟨hos.trans hF.out.os, ht.trans hF.out.tape, ho.trans hF.out.output, Nat.le_trans hF.out.size hsz, fun k hk => (hh k (Nat.lt_of_lt_of_le hk hF.out.size)).trans (hF.out.block k hk)⟩⟩
      clear ht ho hsz hh hos
      walk_nrm
      refine g_cons_k rfl (by rfl) ?_
      intro wO hR K hK2
      replace hF := hF.rely hR
      clear hR
      go_simp
      refine hK2 _ _ ⟨?_, ?_⟩
      · rw [listed_nil (by simp [go_sem])]
        exact dmain_same (by simp)
      clear hK2 K
      try walk_nrm
      exact g_nil sideM_ok ⟨rfl, ⟨_, _, _, rfl⟩, hF⟩
    case rest =>
      clear hF
      rintro ex a' w' γ' ⟨rfl, ⟨x7, x8, x9, rfl⟩, hF⟩
      show GoG Try.prog (sideM Try.prog (EndPost W0)) [] () _ _
      repeat (refine goG_seq sideM_ok ?_)
      refine goG_region sideM_ok ?_
      simp only [List.size_toArray, List.length_cons, List.length_nil, Nat.reduceAdd, Nat.zero_add, List.range, List.range.loop]
      refine goG_op rfl (by rfl) (by simp [base]) ?_
      intro wO hR K hK2
      replace hF := hF.rely hR
      clear hR
      go_simp
      refine hK2 _ _ ⟨?_, ?_⟩
      · rw [listed_nil (by simp [go_sem])]
        exact dmain_same (by simp)
      clear hK2 K
      try walk_nrm
      refine goG_call (x := body29) sideM_ok rfl (by rfl) (by simp [base]) rfl Try.func29 (by rfl) (by rfl) ?_
      walk_nrm
      simp only [Try.ntmps29, List.size_toArray, List.length_cons, List.length_nil, Nat.reduceAdd, Nat.reduceSub, Array.replicate_succ, Array.replicate_zero, List.push_toArray, List.append_toArray, List.nil_append, List.cons_append]
      apply count_main (Post := EndPost W0) (s := s) hs
      intro w3 hb3
      rw [fin29 _ _ _ _ _ _ _ _ rfl]
      have hB : BM W0 w3 := HM.of_below (hF.out.trans (hb3.mono hF.out.size))
      clear hF hb3
      have hF := hB
      clear hB
      walk_nrm
      refine goG_op rfl (by rfl) (by simp [base]) ?_
      intro wO hR K hK2
      replace hF := hF.rely hR
      clear hR
      go_simp
      refine hK2 _ _ ⟨?_, ?_⟩
      · rw [listed_nil (by simp [go_sem])]
        exact dmain_same (by simp)
      clear hK2 K
      try walk_nrm
      refine goG_nil sideM_ok ?_
      repeat (refine goG_seq sideM_ok ?_)
      refine goG_region sideM_ok ?_
      simp only [List.size_toArray, List.length_cons, List.length_nil, Nat.reduceAdd, Nat.zero_add, List.range, List.range.loop]
      refine goG_op rfl (by rfl) (by simp [base]) ?_
      intro wO hR K hK2
      replace hF := hF.rely hR
      clear hR
      go_simp
      refine hK2 _ _ ⟨?_, ?_⟩
      · rw [listed_nil (by simp [go_sem])]
        exact dmain_same (by simp)
      clear hK2 K
      try walk_nrm
      refine goG_op rfl (by rfl) (by simp [base]) ?_
      intro wO hR K hK2
      replace hF := hF.rely hR
      clear hR
      go_simp
      refine hK2 _ _ ⟨?_, ?_⟩
      · rw [listed_nil (by simp [go_sem])]
        exact dmain_same (by simp)
      clear hK2 K
      try walk_nrm
      refine goG_op rfl (by rfl) (by simp [base]) ?_
      intro wO hR K hK2
      replace hF := hF.rely hR
      clear hR
      go_simp
      refine hK2 _ _ ⟨?_, ?_⟩
      · rw [listed_nil (by simp [go_sem])]
        exact dmain_same (by simp)
      clear hK2 K
      try walk_nrm
      refine goG_nil sideM_ok ?_
      refine goG_cond sideM_ok (t := false) (by simp [Act.eval]) ?_
      simp only [Bool.false_eq_true, if_false]
      refine goG_skip sideM_ok (by simp [base]) ?_
      repeat (refine goG_seq sideM_ok ?_)
      refine goG_region sideM_ok ?_
      simp only [List.size_toArray, List.length_cons, List.length_nil, Nat.reduceAdd, Nat.zero_add, List.range, List.range.loop]
      refine goG_op rfl (by rfl) (by simp [base]) ?_
      intro wO hR K hK2
      replace hF := hF.rely hR
      clear hR
      go_simp
      refine hK2 _ _ ⟨?_, ?_⟩
      · rw [listed_nil (by simp [go_sem])]
        exact dmain_same (by simp)
      clear hK2 K
      try walk_nrm
      refine goG_nil sideM_ok ?_
      refine goG_ret sideM_ok (by simp [base]) fun todo => ?_
      exact law_end Try.func5 (by rfl) (by decide) rfl (by simp) hF
end
end Go.Proofs.Ytlkhknoaifbajaa
