/- Merged: Rc15 Rc16. -/
import Derived.Test.YtlkhknoaifbajaaC0
import Derived.Test.YtlkhknoaifbajaaB6
/- GOROUTINE 0: the law's last part, in which no goroutine is started, walked as if it were alone. -/
namespace Go.Proofs.Ytlkhknoaifbajaa
open Go.Conc Go.RowKit M
set_option linter.unusedVariables false
set_option linter.unusedSimpArgs false
set_option maxRecDepth 100000

def TailR (f : FuncId) (t : Tmp) (w : World) (fr' : Frame) (w' : World) : Prop :=
  ∃ (a' : Act) (todo : List Item), fr' = { (base f).at a' todo with mode := .returning } ∧ a'.defers = [] ∧ a'.tmps.getD t undef = .bool true ∧ Hp w.heap.size w w'
theorem goG_tail {okf : FuncId → Bool} (hp : GoodP okf Try.prog) {W0 w : World} {f : FuncId} {fn' : Func} {a : Act} {c : Code} {t : Tmp} (hok : okCode okf c = true) (hd : a.defers = []) (hf : Try.prog.funcs[f]? = some fn') (hres : fn'.results = #[.tmp t]) (hin : ¬ 2 = f) (hB : BM W0 w)
    (h : ∀ (τ : Ans) (d : Nat) (o : Array (Nat × ByteArray)), c.wp Try.prog (bodyPost Try.prog fn' fun e w' => e = .returned (.bool true) ∧ Below (re w τ d o).heap.size (re w τ d o) w') a (re w τ d o)) :
    GoG Try.prog (sideM Try.prog (EndPost W0)) [] () (G ((base f).at a [.code c]) []) w := by
  have hs : Safe Try.prog (fun fr W => ∃ τ d o, TailR f t w fr (re W τ d o)) ((base f).at a [.code c]) [] w := by
    refine safe_of_run (R := TailR f t w) hp ⟨rfl, hd, rfl, .inl rfl, fun i hi => ?_⟩ (fun τ d o => ?_) (fun fr W τ d o _ hr => ⟨τ, d, o, hr⟩)
    · simp only [Frame.at, List.mem_cons, List.not_mem_nil, or_false] at hi
      subst hi
      exact hok
    · obtain ⟨e, a', w', hq, harr⟩ := h τ d o (base f) [] [trap]
      cases e with
      | normal =>
        obtain ⟨hd', v, hr, hv, hb⟩ := hq
        obtain rfl := Ending.returned.inj hv
        have hr2 := results_tmp hres a'.tmps Try.prog w'
        rw [hr] at hr2
        obtain ⟨N, hN⟩ : Steps Try.prog (lone ((base f).at a [.code c]) [trap] (re w τ d o)) (lone { (base f).at a' [] with mode := .returning } [trap] w') := Steps.trans harr (.one step_end)
        exact ⟨{ (base f).at a' [] with mode := .returning }, w', ⟨a', [], rfl, hd', (Result.ok.inj hr2).1.symm, Hp.of hb⟩, ⟨N, hN⟩, rfl⟩
      | ret =>
        obtain ⟨hd', v, hr, hv, hb⟩ := hq
        obtain rfl := Ending.returned.inj hv
        have hr2 := results_tmp hres a'.tmps Try.prog w'
        rw [hr] at hr2
        obtain ⟨todo, N, hN⟩ := harr
        exact ⟨{ (base f).at a' todo with mode := .returning }, w', ⟨a', todo, rfl, hd', (Result.ok.inj hr2).1.symm, Hp.of hb⟩, ⟨N, hN⟩, rfl⟩
      | panic chain => exact absurd hq.2.1 (by simp)
      | exit id => exact hq.elim
      | goto l => exact hq.elim
      | outgrown => exact absurd hq.1 (by simp)
  refine goG_of_toM fun d => ?_
  have h2 := toM_safe hs [] w.tape d w.output
  rw [List.append_nil] at h2
  refine ToM.trans h2 ?_
  rintro a' w' ⟨fr', W, d', rfl, rfl, hm, τ, d2, o2, a'', todo, rfl, hdf, hv, hhp⟩
  refine toM_of_goG (law_end hf hres hin hdf hv ?_)
  have h3 : Hp w.heap.size w (re W w.tape d' w.output) := hhp.re
  exact HM.of_below (hB.out.trans ((h3.below rfl rfl).mono hB.out.size))
end Go.Proofs.Ytlkhknoaifbajaa

/- GOROUTINE 0: a lone call at a frame, whatever its results are kept in. -/
namespace Go.Proofs.Ytlkhknoaifbajaa
open Go.Conc Go.RowKit M
set_option linter.unusedVariables false
set_option linter.unusedSimpArgs false
set_option maxRecDepth 100000

theorem re_of {W' W : World} {τ : Ans} {d d2 : Nat} {o : Array (Nat × ByteArray)} (h : re W' τ d2 o = re W τ d o) (τ' : Ans) (d' : Nat) (o' : Array (Nat × ByteArray)) : re W' τ' d' o' = re W τ' d' o' := by
  obtain ⟨h1, t1, d1, s1, p1⟩ := W'
  obtain ⟨h3, t3, d3, s3, p3⟩ := W
  unfold re at *
  simp only [World.mk.injEq] at h ⊢
  simp [h]
/-- What a call's results are hangs on memory alone. -/
theorem results_any {P : Program} {fn : Func} {tmps : Array Value} {W : World} {τ : Ans} {d : Nat} {o : Array (Nat × ByteArray)} {v : Value} (h : (results fn tmps).run P (re W τ d o) = .ok v (re W τ d o)) :
    ∃ u : Array Event, (∀ e ∈ u, EvF W.heap.size e) ∧ ∀ (τ' : Ans) (d' : Nat) (o' : Array (Nat × ByteArray)) (es : Array Event), (results fn tmps).runT P (re W τ' d' o') es = (.ok v (re W τ' d' o'), es ++ u) := by
  have hT : Tame P Any (results fn tmps) := by
    unfold results
    refine tame_bind (tame_mapMA (fun x => ?_) _) fun _ => tame_pureA
    split
    · exact tame_pureA
    · exact tame_bind tame_asAddr fun _ => tame_loadVar
  obtain ⟨r, k, u, hrun, hsz, hev, _⟩ := hT.run W (fun i q => τ (d + i) q)
  have h1 := congrArg Prod.fst (hrun τ d o #[] (fun i _ q => rfl))
  rw [Sem.runT_eq] at h1
  dsimp only at h1
  rw [h] at h1
  cases r with
  | halt x W' => cases h1
  | ok v' W' =>
    have h2 : v = v' ∧ re W τ d o = re W' τ (d + k) o := by
      have := Result.ok.inj h1
      exact this
    obtain ⟨rfl, h3⟩ := h2
    have hk : k = 0 := by have := congrArg World.drawn h3; unfold re at this; simp at this; omega
    subst hk
    have hh : W'.heap = W.heap := by have := congrArg World.heap h3; exact this.symm
    refine ⟨u, fun e he => by have := hev e he; simpa [rW, hh] using this, fun τ' d' o' es => ?_⟩
    rw [hrun τ' d' o' es (fun i hi => by omega)]
    show (Result.ok v (re W' τ' d' o'), _) = _
    rw [re_of h3.symm τ' d' o']
section
variable {P : Program} {Post : Goroutine → World → Prop}
theorem goG_lone2 {okf : FuncId → Bool} (hp : GoodP okf P) {ys : List Unit} {b : Frame} {k : List Item} {cs : List Frame} {a : Act} {w : World} {ops : Array Oper} {i : Nat} {rest : List Nat} {o : Oper} {f : FuncId} {fn' : Func} {args : Array Operand} {ats : Array TypeId} (Rr : Value → World → Prop)
    (hf : okf f = true) (hfn : P.funcs[f]? = some fn') (hname : (fn'.name == "runtime.NumGoroutine") = false) (hbody : fn'.body.isNone = false)
    (ho : ops[i]? = some o) (hw : Region.wanted o (yielded ops a.tmps) = true) (hk : b.kind ≠ .early) (hop : o.op = .call { callee := .value (.func f), args, argTypes := ats })
    (hre : ∀ v W τ d o τ' d' o', Rr v (re W τ d o) → Rr v (re W τ' d' o'))
    (hc : ∀ (τ : Ans) (d : Nat) (o : Array (Nat × ByteArray)), Calls P f (args.map a.eval) (re w τ d o) fun e w' => ∃ v, e = .returned v ∧ Rr v w')
    (hnext : ∀ v w', w'.tape = w.tape → w'.output = w.output → Rr v w' → GoG P (sideM P Post) ys () (G (b.at (a.put o.dst v) (.inRegion ops rest :: k)) cs) w') : GoG P (sideM P Post) ys () (G (b.at a (.inRegion ops (i :: rest) :: k)) cs) w := by
  have hfin : ∀ v, (b.at a (.inRegion ops (i :: rest) :: k)).finish v = b.at (a.put o.dst v) (.inRegion ops rest :: k) := fun v => by rw [Frame.finish_at, ho]; rfl
  refine goG_of_toM fun d => ?_
  refine ToM.step rfl fun d1 => ?_
  refine ⟨_, _, _, stepG_enter ho hw hk (run_call_body hop hfn hname hbody), Nat.le_refl _, ?_, ?_⟩
  · intro e he
    have hl : listed P b.fn a o ((w.at d).at d1) = #[] := by unfold listed; rw [events_call_body hop hfn hname hbody]; exact seen_none P _
    rw [hl] at he
    simp at he
  have hs : Safe P (fun fr W => ∃ v τ d o, fr.fn = f ∧ fr.leaving P (re W τ d o) (.returned v) ∧ Rr v (re W τ d o)) (Frame.enter P f (args.map a.eval) .normal) [] w :=
    safe_of_calls hp hf hc fun fr W τ d o v h1 h2 h3 => ⟨v, τ, d, o, h1, h2, h3⟩
  refine ToM.trans (toM_safe hs (b.at a (.inRegion ops (i :: rest) :: k) :: cs) w.tape d1 w.output) ?_
  rintro a' w' ⟨fr, W, d2, rfl, rfl, hmode, v, τ, d3, o3, hffn, ⟨_, hdf, hkd, fn2, hfn2, hrun⟩, hR⟩
  rw [hffn, hfn] at hfn2
  obtain rfl := Option.some.inj hfn2
  obtain ⟨u, hu, hres⟩ := results_any hrun
  refine ToM.step rfl fun d4 => ?_
  refine ⟨G (b.at (a.put o.dst v) (.inRegion ops rest :: k)) cs, (re W w.tape d2 w.output).at d4, seen P fr.fn u, ?_, Nat.le_refl _, fun e he => hu e (seen_sub e he), ?_⟩
  · have hr4 := hres w.tape d4 w.output #[]
    have hfn' : P.funcs[fr.fn]? = some fn' := by rw [hffn]; exact hfn
    have hst : stepG P true (G fr (b.at a (.inRegion ops (i :: rest) :: k) :: cs)) (re W w.tape d4 w.output) = unwind P true fr (b.at a (.inRegion ops (i :: rest) :: k) :: cs) none (re W w.tape d4 w.output) := by simp [stepG, G, hmode]
    show stepG P true (G fr (b.at a (.inRegion ops (i :: rest) :: k) :: cs)) (re W w.tape d4 w.output) = _
    rw [hst]
    simp [-Sem.runT_eq, unwind, hdf, hmode, hfn', doReturn, hkd, G, hr4, after_go, ← hfin]
    rfl
  · exact toM_of_goG (hnext v (re W w.tape d4 w.output) rfl rfl (hre _ W τ d3 o3 w.tape d4 w.output hR))
end
end Go.Proofs.Ytlkhknoaifbajaa
