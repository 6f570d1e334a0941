/- Merged: Lt5 Lt6 Lt7 Lt8 Lt9. -/
import Derived.Test.YtlkhknoaifbajaaA6
import Derived.RunNT
/- Which operations a program's own text is made of: a test of its code; they are tame, and what they yield is plain. -/
namespace Go.Proofs.Ytlkhknoaifbajaa
open Go Go.Conc
set_option linter.unusedVariables false
set_option linter.unusedSimpArgs false
set_option maxRecDepth 4000

/-- What an operation of the text may yield: a value, nothing, or the entry into a function that is allowed. -/
def okNext (ok : FuncId → Bool) : Next → Prop
  | .value _ => True
  | .skip => True
  | .enter f _ => ok f = true
  | _ => False

def okOp (ok : FuncId → Bool) : Op → Bool
  | .move _ | .assign _ | .pick .. | .alloc _ | .box .. | .build .. | .buildSlice .. | .load .. | .store .. | .nilCheck _ | .binOp .. | .unOp .. | .convert .. => true
  | .makeInterface .. | .makeFunc .. | .makeChan .. | .makeSlice .. | .slice .. | .fieldAddr .. | .field .. | .indexAddr .. | .index .. | .range .. | .next .. | .extract .. => true
  | .call { callee := .value (.func f), .. } => ok f
  | .call { callee := .builtin b, .. } => match b with
    | .append | .len | .cap | .copy | .min | .max => true
    | _ => false
  | _ => false

section
variable {p : Program} {ok : FuncId → Bool}
theorem tame_v {s : Sem Value} (h : Tame p Any s) : Tame p (okNext ok) (do pure (.value (← s))) := tame_bind h fun _ => trivial
theorem tame_u {s : Sem Unit} (h : Tame p Any s) : Tame p (okNext ok) (do s; pure .skip) := tame_bind h fun _ => trivial

theorem tame_followBlind : ∀ (l : List FieldStep) (t : TypeId) (x : Option Value), Tame p Any (followBlind l t x)
  | [], _, _ => tame_pureA
  | s :: l, t, x => by
    have ih : ∀ (t : TypeId) (x : Option Value), Tame p Any (followBlind l t x) := tame_followBlind l
    unfold followBlind
    refine tame_bind tame_underlying fun _ => ?_
    split
    · split
      · split
        · exact tame_pureA
        · exact ih _ _
        · exact tame_stuck
        · exact tame_pureA
        · exact tame_bind tame_part fun _ => ih _ _
        all_goals first | exact ih _ _ | exact tame_stuck
      · exact tame_stuck
    · exact tame_stuck
theorem tame_nilAhead : ∀ (n : Nat) (t : TypeId) (v : Value) (s : String), Tame p Any (nilAhead n t v s)
  | 0, _, _, _ => tame_pureA
  | n + 1, t, v, s => by
    have ih : ∀ (t : TypeId) (v : Value) (s : String), Tame p Any (nilAhead n t v s) := tame_nilAhead n
    unfold nilAhead
    refine tame_bind tame_typeInfo fun _ => ?_
    split
    · refine tame_bind (tame_followBlind _ _ _) fun _ => ?_
      split
      · exact tame_pureA
      · split
        · exact ih _ _ _
        · exact tame_pureA
        · exact tame_stuck
        · exact tame_pureA
        · exact tame_pureA
        · refine tame_bind tame_underlying fun _ => ?_
          split <;> exact tame_pureA
    · exact tame_stuck
theorem tame_foldlM {γ σ : Type} {f : σ → γ → Sem σ} (hf : ∀ s x, Tame p Any (f s x)) : ∀ (l : List γ) (s : σ), Tame p Any (l.foldlM f s)
  | [], s => by rw [List.foldlM_nil]; exact tame_pureA
  | x :: l, s => by
    rw [List.foldlM_cons]
    exact tame_bind (hf s x) fun _ => tame_foldlM hf l _
theorem tame_min2 (x y : Value) : Tame p Any (Builtin.min2 x y) := by
  unfold Builtin.min2
  split
  · exact tame_pureA
  · split
    · exact tame_bind tame_choose fun _ => tame_pureA
    all_goals exact tame_pureA
  · exact tame_bind tame_stringOp fun _ => tame_bind tame_asBool fun _ => tame_pureA
  · exact tame_unsup
  · exact tame_unsup
  · exact tame_stuck
theorem tame_max2 (x y : Value) : Tame p Any (Builtin.max2 x y) := by
  unfold Builtin.max2
  split
  · exact tame_pureA
  · split
    · exact tame_bind tame_choose fun _ => tame_pureA
    all_goals exact tame_pureA
  · exact tame_bind tame_stringOp fun _ => tame_bind tame_asBool fun _ => tame_pureA
  · exact tame_unsup
  · exact tame_unsup
  · exact tame_stuck
theorem tame_min {ts : Array TypeId} {t : TypeId} {as : Array Value} : Tame p Any (Builtin.min_ ts t as) := by
  unfold Builtin.min_
  split
  · exact tame_stuck
  · exact tame_foldlM (fun _ _ => tame_min2 _ _) _ _
theorem tame_max {ts : Array TypeId} {t : TypeId} {as : Array Value} : Tame p Any (Builtin.max_ ts t as) := by
  unfold Builtin.max_
  split
  · exact tame_stuck
  · exact tame_foldlM (fun _ _ => tame_max2 _ _) _ _

theorem tame_callFunc {f : FuncId} {args : Array Value} {fn : Func} {okN : Next → Prop} (hf : p.funcs[f]? = some fn) (hb : fn.body.isNone = false) (hn : (fn.name == "runtime.NumGoroutine") = false)
    (h : okN (.enter f args)) : Tame p okN (callFunc f args) := by
  unfold callFunc
  show Tame p okN (match p.funcs[f]? with | none => _ | some fn => _)
  rw [hf]
  simp only [hn, hb, Bool.false_eq_true, if_false]
  exact h

theorem tame_exec (hext : ∀ f, ok f = true → ∀ args, Tame p (okNext ok) (callFunc f args)) {ρ : Operand → Value} (hρ : ∀ f, ρ (.func f) = .func (.func f) #[] #[]) {o : Oper} (h : okOp ok o.op = true) :
    Tame p (okNext ok) (execOp ρ o) := by
  obtain ⟨dst, op, ty, pos, after, guard⟩ := o
  cases op with
  | move x => exact trivial
  | assign x => exact trivial
  | pick c a b => exact tame_bind tame_asBool fun _ => trivial
  | alloc t => exact tame_v tame_alloc
  | box t x => exact tame_v tame_box
  | build t ps => exact tame_v tame_build
  | buildSlice t n ps => exact tame_v tame_buildSlice
  | load t a => exact tame_v tame_loadAt
  | store t a x => exact tame_u tame_storeAt
  | nilCheck x =>
    unfold execOp
    dsimp only
    split
    · exact tame_runtimePanic
    · exact tame_runtimePanic
    · exact tame_runtimePanic
    · split
      · exact tame_runtimePanic
      · refine tame_bind tame_program fun _ => ?_
        refine tame_bind (tame_nilAhead _ _ _ _) fun _ => ?_
        split
        · exact tame_bind tame_unsup fun _ => trivial
        · exact trivial
      · exact trivial
    · exact trivial
  | binOp o t x y u => exact tame_v (tame_bind tame_eqGuard fun _ => tame_binOp)
  | unOp o t x => exact tame_v tame_unary
  | convert s d x => exact tame_v tame_convert
  | makeInterface t x => exact tame_v tame_makeInterface
  | makeFunc f a b => exact tame_v tame_makeFunc
  | makeChan t s => exact tame_v tame_makeChan
  | makeSlice t l c => exact tame_v tame_makeSlice
  | slice t x a b c => exact tame_v tame_sliceAt
  | fieldAddr t x n => exact tame_v tame_fieldAt
  | field t x n => exact tame_v tame_field
  | indexAddr t x i => exact tame_v tame_indexAt
  | index t x i => exact tame_v tame_index
  | range t x => exact tame_v tame_range
  | next i b => exact tame_v tame_next
  | extract t i => exact tame_v tame_extract
  | call c =>
    obtain ⟨callee, args, ats⟩ := c
    cases callee with
    | builtin b =>
      cases b <;> first | (exfalso; revert h; simp [okOp]; done) | skip
      · exact tame_v tame_append
      · exact tame_v tame_cap
      · exact tame_v tame_copy
      · exact tame_v tame_len
      · exact tame_v tame_max
      · exact tame_v tame_min
    | invoke r n => exfalso; revert h; simp [okOp]
    | value x =>
      cases x with
      | func f =>
        have hc := hext f h ((#[] ++ args.map ρ) ++ #[])
        unfold execOp
        dsimp only
        unfold resolve
        dsimp only
        rw [hρ f]
        exact hc
      | tmp t => exfalso; revert h; simp [okOp]
      | const t => exfalso; revert h; simp [okOp]
      | global t => exfalso; revert h; simp [okOp]
  | _ => exfalso; revert h; simp [okOp]
end
end Go.Proofs.Ytlkhknoaifbajaa

/- A step of a goroutine whose text is made of plain operations: what it does hangs on the tape by the answers that it draws alone, and on those below it in the stack not at all. -/
namespace Go.Proofs.Ytlkhknoaifbajaa
open Go Go.Conc
set_option linter.unusedVariables false
set_option linter.unusedSimpArgs false
set_option maxRecDepth 4000

theorem foldl_sub {σ : Type} {g : σ × Array Event → Event → σ × Array Event} (hg : ∀ s e, ∀ x ∈ (g s e).2, x ∈ s.2 ∨ x = e) : ∀ (l : List Event) (s : σ × Array Event), ∀ x ∈ (l.foldl g s).2, x ∈ s.2 ∨ x ∈ l
  | [], s, x, hx => .inl hx
  | e :: l, s, x, hx => by
    rw [List.foldl_cons] at hx
    rcases foldl_sub hg l _ x hx with h | h
    · rcases hg s e x h with h | h
      · exact .inl h
      · exact .inr (by simp [h])
    · exact .inr (by simp [h])
theorem seen_sub {p : Program} {fn : FuncId} {es : Array Event} : ∀ e ∈ seen p fn es, e ∈ es := by
  intro e he
  unfold seen at he
  dsimp only at he
  rw [← Array.foldl_toList] at he
  have := foldl_sub (fun s x y hy => by
    split at hy
    · exact .inl hy
    · dsimp only at hy
      split at hy
      · exact .inl hy
      · rcases Array.mem_push.1 hy with h | h
        · exact .inl h
        · exact .inr h) _ _ e he
  simpa using this

def okCode (ok : FuncId → Bool) : Code → Bool
  | .region _ ops _ => ops.all fun o => okOp ok o.op
  | .seq a b => okCode ok a && okCode ok b
  | .cond _ a b => okCode ok a && okCode ok b
  | .block _ c => okCode ok c
  | .loop c => okCode ok c
  | .scope c => okCode ok c
  | .rangeFunc .. => false
  | _ => true
def okItem (ok : FuncId → Bool) : Item → Bool
  | .code c => okCode ok c
  | .inRegion ops _ => ops.all fun o => okOp ok o.op
  | .inLoop c => okCode ok c
  | .inScope c => okCode ok c
  | .inBlock _ => true
  | _ => false

/-- A frame of plain text: entered by an ordinary call, with nothing deferred. -/
structure GoodF (ok : FuncId → Bool) (fr : Frame) : Prop where
  kind : fr.kind = .normal
  defers : fr.defers = []
  round : fr.roundOf = none
  mode : fr.mode = .run ∨ fr.mode = .returning
  todo : ∀ i ∈ fr.todo, okItem ok i = true

/-- The program's text, so far as it is allowed. -/
structure GoodP (ok : FuncId → Bool) (p : Program) : Prop where
  ext : ∀ f, ok f = true → ∀ args, Tame p (okNext ok) (callFunc f args)
  code : ∀ f fn c, ok f = true → p.funcs[f]? = some fn → fn.body = some c → okCode ok c = true
  ahead : p.follows .staticDataAhead = true
  step : ∀ g, p.stepOf g = none

section
variable {p : Program} {ok : FuncId → Bool}

theorem early_ended (hp : GoodP ok p) {fr : Frame} {cs : List Frame} {dy : Option Dying} {g : Nat} {w : World} : ∃ o, early p fr cs dy g w = .ended o w := by
  unfold early
  simp [hp.ahead, hp.step]

theorem goodF_enter (hp : GoodP ok p) {f : FuncId} {args : Array Value} (h : ok f = true) : GoodF ok (Frame.enter p f args .normal) := by
  refine ⟨rfl, rfl, rfl, .inl rfl, fun i hi => ?_⟩
  unfold Frame.enter at hi
  simp only [List.mem_cons, List.not_mem_nil, or_false] at hi
  subst hi
  cases hf : p.funcs[f]? with
  | none => rfl
  | some fn =>
    cases hb : fn.body with
    | none => simp [hb, okItem, okCode]
    | some c => simp only [hb, Option.bind_some, Option.getD_some]; exact hp.code f fn c h hf hb

theorem exitTo_ok {id : Nat} : ∀ {k k' : List Item}, exitTo id k = some k' → (∀ i ∈ k, okItem ok i = true) → ∀ i ∈ k', okItem ok i = true
  | [], k', h, _ => by simp [exitTo] at h
  | x :: k, k', h, hk => by
    have hk' : ∀ i ∈ k, okItem ok i = true := fun i hi => hk i (by simp [hi])
    unfold exitTo at h
    split at h
    · split at h
      · obtain rfl := Option.some.inj h
        rename_i e _
        cases e
        exact hk'
      · rename_i e _
        cases e
        exact exitTo_ok h hk'
    · rename_i e
      cases e
      exact exitTo_ok h hk'
    · cases h
theorem findLabel_ok {l : Nat} : ∀ {c c' : Code}, findLabel c l = some c' → okCode ok c = true → okCode ok c' = true := by
  intro c
  induction c with
  | seq a b iha ihb =>
    intro c' h hk
    simp only [okCode, Bool.and_eq_true] at hk
    unfold findLabel at h
    split at h
    · rename_i r hr
      obtain rfl := Option.some.inj h
      simp only [okCode, Bool.and_eq_true]
      exact ⟨iha hr hk.1, hk.2⟩
    · exact ihb h hk.2
  | label l' =>
    intro c' h hk
    unfold findLabel at h
    split at h
    · obtain rfl := Option.some.inj h; rfl
    · cases h
  | _ => intro c' h; simp [findLabel] at h
theorem gotoIn_ok {l : Nat} : ∀ {k k' : List Item}, gotoIn l k = some k' → (∀ i ∈ k, okItem ok i = true) → ∀ i ∈ k', okItem ok i = true
  | [], k', h, _ => by simp [gotoIn] at h
  | x :: k, k', h, hk => by
    have hk' : ∀ i ∈ k, okItem ok i = true := fun i hi => hk i (by simp [hi])
    have hx := hk x (by simp)
    unfold gotoIn at h
    split at h
    · rename_i body _ e
      cases e
      split at h
      · rename_i r hr
        obtain rfl := Option.some.inj h
        intro i hi
        simp only [List.mem_cons] at hi
        rcases hi with rfl | rfl | hi
        · exact findLabel_ok hr hx
        · exact hx
        · exact hk' i hi
      · exact gotoIn_ok h hk'
    · rename_i e
      cases e
      exact gotoIn_ok h hk'
    · cases h

theorem goodF_finish {fr : Frame} (h : GoodF ok fr) (v : Value) : GoodF ok (fr.finish v) := by
  unfold Frame.finish
  split
  · rename_i ops i rest k e
    refine ⟨h.kind, h.defers, h.round, h.mode, fun j hj => ?_⟩
    have hh := h.todo
    rw [e] at hh
    simp only [List.mem_cons] at hj
    rcases hj with rfl | hj
    · exact hh (.inRegion ops (i :: rest)) (by simp)
    · exact hh j (by simp [hj])
  · rename_i l k e
    have := h.todo (.inRangeFunc l) (by rw [e]; simp)
    simp [okItem] at this
  · rename_i k e
    have := h.todo .beginRound (by rw [e]; simp)
    simp [okItem] at this
  · rename_i d x r s k e
    have := h.todo (.call d x r s) (by rw [e]; simp)
    simp [okItem] at this
  · rename_i x y k e
    have := h.todo (.extern x y) (by rw [e]; simp)
    simp [okItem] at this
  · exact h
theorem finish_mode (fr : Frame) (v : Value) : (fr.finish v).mode = fr.mode := by
  unfold Frame.finish
  split <;> rfl
end
end Go.Proofs.Ytlkhknoaifbajaa

/- One step of a goroutine of plain text. -/
namespace Go.Proofs.Ytlkhknoaifbajaa
open Go Go.Conc
set_option linter.unusedVariables false
set_option linter.unusedSimpArgs false
set_option maxRecDepth 4000

/-- The tape τ gives, from place d on, the k answers f. -/
def Agree (f : Nat → Question → Nat) (k : Nat) (τ : Nat → Question → Nat) (d : Nat) : Prop := ∀ i, i < k → ∀ q, τ (d + i) q = f i q

def Same (p : Program) (fr : Frame) (l : List Frame) (w : World) (f : Nat → Question → Nat) (k : Nat) (fr' : Frame) (l' : List Frame) (W : World) (u : Array Event) : Prop :=
  ∀ (base : List Frame) (main : Bool) (τ : Nat → Question → Nat) (d : Nat) (o : Array (Nat × ByteArray)), Agree f k τ d →
    stepG p main (G fr (l ++ base)) (re w τ d o) = .go (G fr' (l' ++ base)) (re W τ (d + k) o) u

/-- The stack below: frames in the midst of a call. -/
def GoodL (ok : FuncId → Bool) (l : List Frame) : Prop := ∀ c ∈ l, GoodF ok c ∧ c.mode = .run

def Goes1 (ok : FuncId → Bool) (p : Program) (fr : Frame) (l : List Frame) (w : World) (f : Nat → Question → Nat) : Prop :=
  ∃ k fr' l' W u, GoodF ok fr' ∧ GoodL ok l' ∧ w.heap.size ≤ W.heap.size ∧ (∀ e ∈ u, EvF W.heap.size e) ∧ Same p fr l w f k fr' l' W u

/-- It ends the run, or panics. -/
def Falls (p : Program) (fr : Frame) (l : List Frame) (w : World) (f : Nat → Question → Nat) : Prop :=
  ∃ k, ∀ (base : List Frame) (main : Bool) (τ : Nat → Question → Nat) (d : Nat) (o : Array (Nat × ByteArray)), Agree f k τ d →
    (∃ oc W u, stepG p main (G fr (l ++ base)) (re w τ d o) = .ended oc W u) ∨
    ∃ chain W u, stepG p main (G fr (l ++ base)) (re w τ d o) = .go (G { fr with mode := .panicking chain } (l ++ base)) W u

section
variable {p : Program} {ok : FuncId → Bool}

theorem ctl {fr : Frame} {l : List Frame} {w : World} {f : Nat → Question → Nat} (hg : GoodF ok fr) (hl : GoodL ok l) (todo' : List Item) (mode' : FrameMode) (hm : mode' = .run ∨ mode' = .returning) (ht : ∀ i ∈ todo', okItem ok i = true)
    (h : ∀ (cs : List Frame) (main : Bool) (W : World), stepG p main (G fr cs) W = .go (G { fr with todo := todo', mode := mode' } cs) W #[]) : Goes1 ok p fr l w f :=
  ⟨0, { fr with todo := todo', mode := mode' }, l, w, #[], ⟨hg.kind, hg.defers, hg.round, hm, ht⟩, hl, Nat.le_refl _, by simp, fun base main τ d o _ => h _ _ _⟩

theorem ends {fr : Frame} {l : List Frame} {w : World} {f : Nat → Question → Nat} (h : ∀ (cs : List Frame) (main : Bool) (W : World), ∃ oc, stepG p main (G fr cs) W = .ended oc W) : Falls p fr l w f :=
  ⟨0, fun base main τ d o _ => .inl (let ⟨oc, e⟩ := h (l ++ base) main (re w τ d o); ⟨oc, _, _, e⟩)⟩

theorem after_go (es : Array Event) (g : Goroutine) (w : World) : GStep.after es (.go g w) = .go g w es := by simp [GStep.after]
theorem after_ended (es : Array Event) (o : Outcome) (w : World) : GStep.after es (.ended o w) = .ended o w es := by simp [GStep.after]

/-- An operation of the text. -/
theorem step_oper (hp : GoodP ok p) {fr : Frame} {l : List Frame} {ops : Array Oper} {i : Nat} {rest : List Nat} {k : List Item} (w : World) (f : Nat → Question → Nat) (hg : GoodF ok fr) (hl : GoodL ok l) (hm : fr.mode = .run)
    (ht : fr.todo = .inRegion ops (i :: rest) :: k) (hw : ((ops[i]?).map (Region.wanted · (yielded ops fr.tmps))).getD false = true) : Goes1 ok p fr l w f ∨ Falls p fr l w f := by
  have hst : ∀ (cs : List Frame) (main : Bool) (W : World), stepG p main (G fr cs) W = stepG.oper p true fr cs none W := by
    intro cs main W
    simp [stepG, G, hm, stepG.exec, ht, hw]
  cases ho : ops[i]? with
  | none =>
    refine .inr (ends fun cs main W => ?_)
    rw [hst]
    unfold stepG.oper Frame.oper?
    rw [ht]
    simp only [ho]
    exact ⟨_, rfl⟩
  | some op =>
    have hok : okOp ok op.op = true := by
      have := hg.todo (.inRegion ops (i :: rest)) (by rw [ht]; simp)
      simp only [okItem, Array.all_eq_true] at this
      obtain ⟨hi, rfl⟩ := Array.getElem?_eq_some_iff.1 ho
      exact this i hi
    have hT : Tame p (okNext ok) (execOp fr.eval op) := tame_exec hp.ext (fun _ => rfl) hok
    obtain ⟨r, n, u, hrun, hsz, hev, hr⟩ := hT.run w f
    have hop : fr.oper? = some op := by unfold Frame.oper?; rw [ht]; exact ho
    have happ : ∀ (cs : List Frame) (main : Bool) (W : World), stepG p main (G fr cs) W = stepG.apply p true fr cs none (execOp fr.eval op) W := by
      intro cs main W
      rw [hst]
      unfold stepG.oper
      rw [hop, hg.round]
    have hev' : ∀ e ∈ seen p fr.fn u, EvF (rW r).heap.size e := fun e he => hev e (seen_sub e he)
    have hkind : (fr.kind == .early) = false := by rw [hg.kind]; rfl
    cases r with
    | ok nx W =>
      cases nx with
      | value v =>
        refine .inl ⟨n, fr.finish v, l, W, seen p fr.fn u, goodF_finish hg v, hl, hsz, hev', fun base main τ d o ha => ?_⟩
        rw [happ]
        unfold stepG.apply
        simp only [hrun τ d o #[] ha, rRe, ht, hkind, if_true, Bool.false_eq_true, if_false, Array.empty_append, after_go]
        rfl
      | skip =>
        refine .inl ⟨n, fr.finish undef, l, W, seen p fr.fn u, goodF_finish hg undef, hl, hsz, hev', fun base main τ d o ha => ?_⟩
        rw [happ]
        unfold stepG.apply
        simp only [hrun τ d o #[] ha, rRe, ht, hkind, if_true, Bool.false_eq_true, if_false, Array.empty_append, after_go]
        rfl
      | enter g args =>
        refine .inl ⟨n, Frame.enter p g args .normal, fr :: l, W, seen p fr.fn u, goodF_enter hp hr, ?_, hsz, hev', fun base main τ d o ha => ?_⟩
        · intro c hc
          simp only [List.mem_cons] at hc
          rcases hc with rfl | hc
          · exact ⟨hg, hm⟩
          · exact hl c hc
        · rw [happ]
          unfold stepG.apply
          simp only [hrun τ d o #[] ha, rRe, ht, hkind, if_true, Bool.false_eq_true, if_false, Array.empty_append, after_go]
          rfl
      | _ => exact hr.elim
    | halt h W =>
      refine .inr ⟨n, fun base main τ d o ha => ?_⟩
      rw [happ]
      unfold stepG.apply
      cases h with
      | panic v =>
        refine .inr ⟨[{ v, recovered := false }], re W τ (d + n) o, seen p fr.fn u, ?_⟩
        simp only [hrun τ d o #[] ha, rRe, ht, hkind, if_true, Bool.false_eq_true, if_false, Array.empty_append, after_go, Frame.raise, hm]
        rfl
      | stuck s =>
        refine .inl ⟨.stuck s (fr.pos p), re W τ (d + n) o, seen p fr.fn u, ?_⟩
        simp only [hrun τ d o #[] ha, rRe, ht, hkind, if_true, Bool.false_eq_true, if_false, Array.empty_append, after_ended]
      | unsupported s =>
        by_cases hs : ∃ g, s = .initOrder g
        · obtain ⟨g, rfl⟩ := hs
          obtain ⟨oc, hoc⟩ := early_ended hp (fr := fr) (cs := l ++ base) (dy := none) (g := g) (w := re W τ (d + n) o)
          refine .inl ⟨oc, re W τ (d + n) o, #[], ?_⟩
          simp only [hrun τ d o #[] ha, rRe, ht, hkind, if_true, Bool.false_eq_true, if_false, Array.empty_append, hoc, after_ended]
          rfl
        · refine .inl ⟨.unsupported s (fr.pos p), re W τ (d + n) o, seen p fr.fn u, ?_⟩
          cases s with
          | initOrder g => exact absurd ⟨g, rfl⟩ hs
          | _ => simp only [hrun τ d o #[] ha, rRe, ht, hkind, if_true, Bool.false_eq_true, if_false, Array.empty_append, after_ended]
      | _ => exact hr.elim

theorem goodF_todo {fr : Frame} (hg : GoodF ok fr) {x : Item} {k : List Item} (ht : fr.todo = x :: k) : okItem ok x = true ∧ ∀ i ∈ k, okItem ok i = true := by
  have h := hg.todo
  rw [ht] at h
  exact ⟨h x (by simp), fun i hi => h i (by simp [hi])⟩

theorem fr_run {fr : Frame} (hm : fr.mode = .run) (k : List Item) : { fr with todo := k, mode := .run } = { fr with todo := k } := by
  cases fr; simp_all

/-- .. in the midst of its text. -/
theorem step_run (hp : GoodP ok p) {fr : Frame} {l : List Frame} (w : World) (f : Nat → Question → Nat) (hg : GoodF ok fr) (hl : GoodL ok l) (hm : fr.mode = .run) : Goes1 ok p fr l w f ∨ Falls p fr l w f := by
  have hst : ∀ (cs : List Frame) (main : Bool) (W : World), stepG p main (G fr cs) W = stepG.exec p main true fr cs none W := by
    intro cs main W
    simp [stepG, G, hm]
  have hto : ∀ (k : List Item), (∀ i ∈ k, okItem ok i = true) → (∀ (cs : List Frame) (main : Bool) (W : World), stepG.exec p main true fr cs none W = .go (G { fr with todo := k } cs) W #[]) → Goes1 ok p fr l w f ∨ Falls p fr l w f := by
    intro k hk h
    refine .inl (ctl hg hl k .run (.inl rfl) hk fun cs main W => ?_)
    rw [hst, h, fr_run hm]
  have hlost : (∀ (cs : List Frame) (main : Bool) (W : World), ∃ oc, stepG.exec p main true fr cs none W = .ended oc W) → Goes1 ok p fr l w f ∨ Falls p fr l w f := by
    intro h
    refine .inr (ends fun cs main W => ?_)
    rw [hst]
    exact h cs main W
  have hret : (∀ (cs : List Frame) (main : Bool) (W : World), stepG.exec p main true fr cs none W = .go (G { fr with mode := .returning } cs) W #[]) → Goes1 ok p fr l w f ∨ Falls p fr l w f := by
    intro h
    refine .inl (ctl hg hl fr.todo .returning (.inr rfl) hg.todo fun cs main W => ?_)
    rw [hst, h]
  have hr := hg.round
  cases ht : fr.todo with
  | nil =>
    refine hret fun cs main W => ?_
    simp [stepG.exec, ht, hr, G]
  | cons x k =>
    obtain ⟨hx, hk⟩ := goodF_todo hg ht
    cases x with
    | code c =>
      cases c with
      | skip => exact hto k hk fun cs main W => by simp [stepG.exec, ht, G]
      | label n => exact hto k hk fun cs main W => by simp [stepG.exec, ht, G]
      | seq a b =>
        simp only [okItem, okCode, Bool.and_eq_true] at hx
        refine hto (.code a :: .code b :: k) (fun i hi => ?_) fun cs main W => by simp [stepG.exec, ht, G]
        simp only [List.mem_cons] at hi
        rcases hi with rfl | rfl | hi
        · exact hx.1
        · exact hx.2
        · exact hk i hi
      | cond c a b =>
        simp only [okItem, okCode, Bool.and_eq_true] at hx
        by_cases hc : ∃ t, fr.eval c = .bool t
        · obtain ⟨t, hc⟩ := hc
          refine hto (.code (if t then a else b) :: k) (fun i hi => ?_) fun cs main W => by simp [stepG.exec, ht, hc, G]
          simp only [List.mem_cons] at hi
          rcases hi with rfl | hi
          · cases t
            · exact hx.2
            · exact hx.1
          · exact hk i hi
        · refine hlost fun cs main W => ?_
          simp only [stepG.exec, ht]
          split
          · rename_i t e; exact absurd ⟨t, e⟩ hc
          · exact ⟨_, rfl⟩
      | block id c =>
        refine hto (.code c :: .inBlock id :: k) (fun i hi => ?_) fun cs main W => by simp [stepG.exec, ht, G]
        simp only [List.mem_cons] at hi
        rcases hi with rfl | rfl | hi
        · exact hx
        · rfl
        · exact hk i hi
      | loop c =>
        refine hto (.code c :: .inLoop c :: k) (fun i hi => ?_) fun cs main W => by simp [stepG.exec, ht, G]
        simp only [List.mem_cons] at hi
        rcases hi with rfl | rfl | hi
        · exact hx
        · exact hx
        · exact hk i hi
      | scope c =>
        refine hto (.code c :: .inScope c :: k) (fun i hi => ?_) fun cs main W => by simp [stepG.exec, ht, G]
        simp only [List.mem_cons] at hi
        rcases hi with rfl | rfl | hi
        · exact hx
        · exact hx
        · exact hk i hi
      | exit id =>
        cases he : exitTo id k with
        | none => exact hlost fun cs main W => by simp only [stepG.exec, ht, he, hr, Option.elim]; exact ⟨_, rfl⟩
        | some k' => exact hto k' (exitTo_ok he hk) fun cs main W => by simp [stepG.exec, ht, he, G]
      | goto n =>
        cases he : gotoIn n k with
        | none => exact hlost fun cs main W => by simp only [stepG.exec, ht, he, hr, Option.elim]; exact ⟨_, rfl⟩
        | some k' => exact hto k' (gotoIn_ok he hk) fun cs main W => by simp [stepG.exec, ht, he, G]
      | ret => exact hret fun cs main W => by simp [stepG.exec, ht, hr, G]
      | refuse s => exact hlost fun cs main W => by simp only [stepG.exec, ht]; exact ⟨_, rfl⟩
      | rangeFunc a b c d => simp [okItem, okCode] at hx
      | region id ops draw =>
        cases draw with
        | false =>
          refine hto (.inRegion ops (List.range ops.size) :: k) (fun i hi => ?_) fun cs main W => by simp [stepG.exec, ht, G]
          simp only [List.mem_cons] at hi
          rcases hi with rfl | hi
          · exact hx
          · exact hk i hi
        | true =>
          refine .inl ⟨1, { fr with todo := .inRegion ops (Region.schedule (p.follows .mixedOrders) ops (f 0 (.order fr.fn id))) :: k }, l, w, #[], ⟨hg.kind, hg.defers, hg.round, hg.mode, fun i hi => ?_⟩, hl, Nat.le_refl _, by simp, fun base main τ d o ha => ?_⟩
          · simp only [List.mem_cons] at hi
            rcases hi with rfl | hi
            · exact hx
            · exact hk i hi
          · rw [hst]
            have h0 : τ d (.order fr.fn id) = f 0 (.order fr.fn id) := by simpa using ha 0 (by omega) (.order fr.fn id)
            have hch : (choose (.order fr.fn id)).run p (re w τ d o) = .ok (f 0 (.order fr.fn id)) (re w τ (d + 1) o) := by
              simp only [choose, Sem.run, Question.forced, Question.cut, re, Bool.false_eq_true, if_false]
              rw [h0]
            simp [stepG.exec, ht, G, hch]
    | inBlock n => exact hto k hk fun cs main W => by simp [stepG.exec, ht, G]
    | inScope c => exact hto k hk fun cs main W => by simp [stepG.exec, ht, G]
    | inLoop c =>
      refine hto (.code c :: .inLoop c :: k) (fun i hi => ?_) fun cs main W => by simp [stepG.exec, ht, G]
      simp only [List.mem_cons] at hi
      rcases hi with rfl | rfl | hi
      · exact hx
      · exact hx
      · exact hk i hi
    | inRegion ops is =>
      cases is with
      | nil => exact hto k hk fun cs main W => by simp [stepG.exec, ht, G]
      | cons i rest =>
        by_cases hw : ((ops[i]?).map (Region.wanted · (yielded ops fr.tmps))).getD false = true
        · exact step_oper hp w f hg hl hm ht hw
        · refine .inl ⟨0, fr.finish undef, l, w, #[], goodF_finish hg undef, hl, Nat.le_refl _, by simp, fun base main τ d o _ => ?_⟩
          rw [hst]
          simp [stepG.exec, ht, hw, G]
    | _ => simp [okItem] at hx

/-- .. on its way out, into whoever called it. -/
theorem step_out {fr c : Frame} {l : List Frame} (w : World) (f : Nat → Question → Nat) (hg : GoodF ok fr) (hl : GoodL ok (c :: l)) (hm : fr.mode = .returning) : Goes1 ok p fr (c :: l) w f ∨ Falls p fr (c :: l) w f := by
  have hst : ∀ (cs : List Frame) (main : Bool) (W : World), stepG p main (G fr cs) W = unwind p main fr cs none W := by
    intro cs main W
    simp [stepG, G, hm]
  have hc := hl c (by simp)
  have hl' : GoodL ok l := fun x hx => hl x (by simp [hx])
  cases hf : p.funcs[fr.fn]? with
  | none =>
    refine .inl ⟨0, c.finish (fr.tmps.getD 0 undef), l, w, #[], goodF_finish hc.1 _, hl', Nat.le_refl _, by simp, fun base main τ d o _ => ?_⟩
    rw [hst]
    simp [unwind, hg.defers, hm, hf, doReturn, hg.kind, G]
  | some fn =>
    have hT : Tame p Any (results fn fr.tmps) := by
      unfold results
      refine tame_bind (tame_mapMA (fun x => ?_) _) fun _ => tame_pureA
      split
      · exact tame_pureA
      · exact tame_bind tame_asAddr fun _ => tame_loadVar
    obtain ⟨r, n, u, hrun, hsz, hev, hr⟩ := hT.run w f
    have hev' : ∀ e ∈ seen p fr.fn u, EvF (rW r).heap.size e := fun e he => hev e (seen_sub e he)
    cases r with
    | ok v W =>
      refine .inl ⟨n, c.finish v, l, W, seen p fr.fn u, goodF_finish hc.1 _, hl', hsz, hev', fun base main τ d o ha => ?_⟩
      rw [hst]
      simp [-Sem.runT_eq, unwind, hg.defers, hm, hf, doReturn, hg.kind, G, hrun τ d o #[] ha, rRe, after_go]
    | halt h W =>
      refine .inr ⟨n, fun base main τ d o ha => .inl ?_⟩
      rw [hst]
      cases h <;> simp [-Sem.runT_eq, unwind, hg.defers, hm, hf, hrun τ d o #[] ha, rRe, after_ended]

/-- ████ ONE STEP. ████ -/
theorem good_step (hp : GoodP ok p) {fr : Frame} {l : List Frame} (w : World) (f : Nat → Question → Nat) (hg : GoodF ok fr) (hl : GoodL ok l) (hne : l ≠ [] ∨ fr.mode = .run) : Goes1 ok p fr l w f ∨ Falls p fr l w f := by
  rcases hg.mode with hm | hm
  · exact step_run hp w f hg hl hm
  · cases l with
    | nil => exact step_run hp w f hg hl (hne.resolve_left (by simp))
    | cons c l => exact step_out w f hg hl hm
end
end Go.Proofs.Ytlkhknoaifbajaa

/- FROM A CONTRACT OF ONE GOROUTINE ALONE, AT EVERY TAPE, TO A WALK IN WHATEVER COMPANY THAT DRAWS FROM THE TAPE BETWEEN ITS STEPS: 'Safe'. -/
namespace Go.Proofs.Ytlkhknoaifbajaa
open Go Go.Conc
set_option linter.unusedVariables false
set_option linter.unusedSimpArgs false
set_option maxRecDepth 4000

/-- The answers that are to come. -/
abbrev Ans := Nat → Question → Nat

/-- Whatever the tape answers, the goroutine comes, by steps that list nothing but plain entries, to the end of the call that it is in: there 'Q' holds. -/
inductive Safe (p : Program) (Q : Frame → World → Prop) : Frame → List Frame → World → Prop
  | exit (fr : Frame) (w : World) (hm : fr.mode = .returning) (hq : Q fr w) : Safe p Q fr [] w
  | step (fr : Frame) (l : List Frame) (w : World) (k : Ans → Nat) (fr' : Ans → Frame) (l' : Ans → List Frame) (W : Ans → World) (u : Ans → Array Event)
      (hne : l ≠ [] ∨ fr.mode = .run) (h : ∀ f, w.heap.size ≤ (W f).heap.size ∧ (∀ e ∈ u f, EvF (W f).heap.size e) ∧ Same p fr l w f (k f) (fr' f) (l' f) (W f) (u f))
      (rec : ∀ f, Safe p Q (fr' f) (l' f) (W f)) : Safe p Q fr l w

structure St where
  fr : Frame
  l : List Frame
  w : World

section
variable {p : Program} {ok : FuncId → Bool} {Q : Frame → World → Prop}

def Bad (ok : FuncId → Bool) (p : Program) (Q : Frame → World → Prop) (s : St) : Prop := GoodF ok s.fr ∧ GoodL ok s.l ∧ ¬ Safe p Q s.fr s.l s.w
def Move (ok : FuncId → Bool) (p : Program) (Q : Frame → World → Prop) (s : St) (f : Ans) (k : Nat) (s' : St) : Prop := Bad ok p Q s' ∧ ∃ u, Same p s.fr s.l s.w f k s'.fr s'.l s'.w u

theorem bad_next (hp : GoodP ok p) {s : St} (hb : Bad ok p Q s) :
    (s.l = [] ∧ s.fr.mode = .returning ∧ ¬ Q s.fr s.w) ∨ (∃ f, Falls p s.fr s.l s.w f) ∨ ∃ f k s', Move ok p Q s f k s' := by
  obtain ⟨fr, l, w⟩ := s
  obtain ⟨hg, hl, hn⟩ := hb
  dsimp only at hg hl hn ⊢
  by_cases hne : l ≠ [] ∨ fr.mode = .run
  · refine .inr ?_
    refine Classical.byContradiction fun hc => hn ?_
    have h1 : ∀ f, ∃ k fr' l' W u, (w.heap.size ≤ W.heap.size ∧ (∀ e ∈ u, EvF W.heap.size e) ∧ Same p fr l w f k fr' l' W u) ∧ Safe p Q fr' l' W := by
      intro f
      rcases good_step hp w f hg hl hne with ⟨k, fr', l', W, u, hg', hl', hs, he, hsame⟩ | hf
      · refine ⟨k, fr', l', W, u, ⟨hs, he, hsame⟩, Classical.byContradiction fun hns => hc (.inr ⟨f, k, ⟨fr', l', W⟩, ⟨hg', hl', hns⟩, u, hsame⟩)⟩
      · exact absurd (.inl ⟨f, hf⟩) hc
    exact .step fr l w (fun f => (h1 f).choose) (fun f => (h1 f).choose_spec.choose) (fun f => (h1 f).choose_spec.choose_spec.choose) (fun f => (h1 f).choose_spec.choose_spec.choose_spec.choose) (fun f => (h1 f).choose_spec.choose_spec.choose_spec.choose_spec.choose) hne
      (fun f => (h1 f).choose_spec.choose_spec.choose_spec.choose_spec.choose_spec.1) (fun f => (h1 f).choose_spec.choose_spec.choose_spec.choose_spec.choose_spec.2)
  · have h1 : l = [] := Classical.byContradiction fun h => hne (.inl h)
    have h2 : fr.mode = .returning := hg.mode.resolve_left fun h => hne (.inr h)
    subst h1
    exact .inl ⟨rfl, h2, fun hq => hn (.exit fr w h2 hq)⟩

/-! ### one tape that gives just the answers of a row of moves -/
section tape
variable (K : Nat → Nat) (F : Nat → Ans)
def V : Nat → Nat
  | 0 => 0
  | n + 1 => V n + K n
theorem V_mono : ∀ {a b : Nat}, a ≤ b → V K a ≤ V K b := by
  intro a b h
  induction h with
  | refl => exact Nat.le_refl _
  | step _ ih => exact Nat.le_trans ih (Nat.le_add_right _ _)
open Classical in
noncomputable def tapeOf : Nat → Question → Nat := fun n q =>
  if h : ∃ j, V K j ≤ n ∧ n < V K (j + 1) then F h.choose (n - V K h.choose) q else 0
theorem tapeOf_agree (j : Nat) : Agree (F j) (K j) (tapeOf K F) (V K j) := by
  intro i hi q
  have h : ∃ j', V K j' ≤ V K j + i ∧ V K j + i < V K (j' + 1) := ⟨j, Nat.le_add_right _ _, by show _ < V K j + K j; omega⟩
  have he : h.choose = j := by
    have hc := h.choose_spec
    rcases Nat.lt_trichotomy h.choose j with hlt | he | hgt
    · have := V_mono K (show h.choose + 1 ≤ j from hlt)
      omega
    · exact he
    · have := V_mono K (show j + 1 ≤ h.choose from hgt)
      have : V K (j + 1) = V K j + K j := rfl
      omega
  unfold tapeOf
  rw [dif_pos h, he]
  congr 1
  omega
end tape

/-! ### the trap below -/

/-- A frame that ends the run as soon as it is come back to. -/
def trap : Frame := { fn := 0, tmps := #[], todo := [.code (.refuse "")], defers := [{ target := .nil, args := #[] }], mode := .run, kind := .normal }

theorem step_solo_go {P : Program} {a a' : Goroutine} {w w' : World} {es : Array Event} (hr : a.status = .running) (h : stepG P true a w = .go a' w' es) : step P (solo a w) = .next (solo a' w') := by
  unfold step
  rw [stepT_solo hr, runT_solo_go h]
theorem step_solo_ended {P : Program} {a : Goroutine} {w w' : World} {oc : Outcome} {es : Array Event} (hr : a.status = .running) (h : stepG P true a w = .ended oc w' es) : step P (solo a w) = .ended oc w' := by
  unfold step
  rw [stepT_solo hr]
  simp [runT, solo, Array.swapAt!, Array.swapAt, h, GStep.es]

theorem trap_ends {P : Program} {w : World} : ∃ oc w', step P (solo (G trap []) w) = .ended oc w' :=
  ⟨_, _, step_solo_ended rfl (by simp [stepG, G, trap, stepG.exec]; exact ⟨rfl, rfl, rfl⟩)⟩

/-- The run is over. -/
def Over (P : Program) (m : Machine) : Prop := ∀ n m', runN P n m = .next m' → ∀ fr w, m' = lone fr [trap] w → fr.mode ≠ .returning
theorem Over.of_ended {P : Program} {m : Machine} {oc : Outcome} {w : World} (h : step P m = .ended oc w) : ∀ n m', runN P (n + 1) m ≠ .next m' := by
  intro n m' e
  simp [runN, h] at e

/-- It unwinds, towards the trap. -/
inductive Unw : Goroutine → Prop
  | mid (fr : Frame) (l : List Frame) (chain : List PanicEntry) (hm : fr.mode = .panicking chain) (hd : fr.defers = []) (hl : ∀ c ∈ l, c.defers = [] ∧ c.mode = .run) : Unw (G fr (l ++ [trap]))
  | bot (chain : List PanicEntry) : Unw (G (trap.raise chain) [])

theorem unw_step {P : Program} {g : Goroutine} {w : World} (h : Unw g) : (∃ oc w', step P (solo g w) = .ended oc w') ∨ ∃ g', Unw g' ∧ step P (solo g w) = .next (solo g' w) := by
  cases h with
  | mid fr l chain hm hd hl =>
    by_cases hc : fr.catches P = true
    · exact .inl ⟨_, _, step_solo_ended rfl (by simp [stepG, G, hm, unwind, hd, hc]; exact ⟨rfl, rfl, rfl⟩)⟩
    · cases l with
      | nil => exact .inr ⟨G (trap.raise chain) [], .bot chain, step_solo_go (es := #[]) rfl (by simp [stepG, G, hm, unwind, hd, hc])⟩
      | cons c l =>
        refine .inr ⟨G (c.raise chain) (l ++ [trap]), ?_, step_solo_go (es := #[]) rfl (by simp [stepG, G, hm, unwind, hd, hc])⟩
        have hcc := hl c (by simp)
        refine .mid _ l chain ?_ ?_ fun x hx => hl x (by simp [hx])
        · unfold Frame.raise; rw [hcc.2]
        · unfold Frame.raise; rw [hcc.2]; exact hcc.1
  | bot chain =>
    exact .inl ⟨_, _, step_solo_ended rfl (by simp [stepG, G, trap, Frame.raise, unwind, callDeferred]; exact ⟨rfl, rfl, rfl⟩)⟩

theorem unw_over {P : Program} : ∀ (n : Nat) {g : Goroutine} {w : World} {m' : Machine}, Unw g → runN P n (solo g w) = .next m' → ∀ fr w', m' = lone fr [trap] w' → fr.mode ≠ .returning := by
  intro n
  induction n with
  | zero =>
    intro g w m' h hr fr w' he hm
    simp only [runN, Stepped.next.injEq] at hr
    subst hr
    cases h with
    | mid fr0 l chain hm0 _ _ =>
      have : fr0 = fr := by
        have := congrArg (fun m => (m.gs[0]?).map (·.frame)) he
        simpa [solo, lone, G] using this
      subst this
      rw [hm0] at hm; cases hm
    | bot chain =>
      have := congrArg (fun m => (m.gs[0]?).map (·.callers)) he
      simp [solo, lone, G] at this
  | succ n ih =>
    intro g w m' h hr
    rcases unw_step (P := P) (w := w) h with ⟨oc, w1, he⟩ | ⟨g', hu, he⟩
    · exact absurd hr (Over.of_ended he n m')
    · have : runN P (n + 1) (solo g w) = runN P n (solo g' w) := by simp [runN, he]
      rw [this] at hr
      exact ih hu hr

/-! ### the row of moves -/
section path
def FallsK (p : Program) (fr : Frame) (l : List Frame) (w : World) (f : Ans) (k : Nat) : Prop :=
  ∀ (base : List Frame) (main : Bool) (τ : Nat → Question → Nat) (d : Nat) (o : Array (Nat × ByteArray)), Agree f k τ d →
    (∃ oc W u, stepG p main (G fr (l ++ base)) (re w τ d o) = .ended oc W u) ∨
    ∃ chain W u, stepG p main (G fr (l ++ base)) (re w τ d o) = .go (G { fr with mode := .panicking chain } (l ++ base)) W u
/-- It returns into the trap. -/
theorem out_trap {fr : Frame} {w : World} (hg : GoodF ok fr) (hm : fr.mode = .returning) : (∃ oc w', step p (solo (G fr [trap]) w) = .ended oc w') ∨ ∃ w', step p (solo (G fr [trap]) w) = .next (solo (G trap []) w') := by
  have hst : stepG p true (G fr [trap]) w = unwind p true fr [trap] none w := by simp [stepG, G, hm]
  have hfin : ∀ v, trap.finish v = trap := fun v => rfl
  cases hf : p.funcs[fr.fn]? with
  | none => exact .inr ⟨w, step_solo_go (es := #[]) rfl (by rw [hst]; simp [unwind, hg.defers, hm, hf, doReturn, hg.kind, G, hfin])⟩
  | some fn =>
    cases hr : (results fn fr.tmps).runT p w #[] with
    | mk r es =>
      cases r with
      | ok v W => exact .inr ⟨W, step_solo_go (es := seen p fr.fn es) rfl (by rw [hst]; simp [-Sem.runT_eq, unwind, hg.defers, hm, hf, hr, doReturn, hg.kind, G, hfin, after_go])⟩
      | halt h W =>
        refine .inl ?_
        cases h
        all_goals exact ⟨_, _, step_solo_ended rfl (by rw [hst]; simp [-Sem.runT_eq, unwind, hg.defers, hm, hf, hr, after_ended]; exact ⟨rfl, rfl, rfl⟩)⟩
variable (ok p Q) in
def BadSt := { s : St // Bad ok p Q s }
open Classical in
noncomputable def nxt (s : BadSt p ok Q) : Ans × Nat × BadSt p ok Q :=
  if h : ∃ f k s', Move ok p Q s.1 f k s' then ⟨h.choose, h.choose_spec.choose, ⟨h.choose_spec.choose_spec.choose, h.choose_spec.choose_spec.choose_spec.1⟩⟩
  else if h : ∃ f k, FallsK p s.1.fr s.1.l s.1.w f k then ⟨h.choose, h.choose_spec.choose, s⟩ else ⟨fun _ _ => 0, 0, s⟩
theorem nxt_move {s : BadSt p ok Q} (h : ∃ f k s', Move ok p Q s.1 f k s') : ∃ u, Same p s.1.fr s.1.l s.1.w (nxt s).1 (nxt s).2.1 (nxt s).2.2.1.fr (nxt s).2.2.1.l (nxt s).2.2.1.w u := by
  unfold nxt
  rw [dif_pos h]
  exact h.choose_spec.choose_spec.choose_spec.2
theorem nxt_falls {s : BadSt p ok Q} (hn : ¬ ∃ f k s', Move ok p Q s.1 f k s') (h : ∃ f k, FallsK p s.1.fr s.1.l s.1.w f k) : FallsK p s.1.fr s.1.l s.1.w (nxt s).1 (nxt s).2.1 := by
  unfold nxt
  rw [dif_neg hn, dif_pos h]
  exact h.choose_spec.choose_spec
noncomputable def path (s : BadSt p ok Q) : Nat → BadSt p ok Q
  | 0 => s
  | n + 1 => (nxt (path s n)).2.2

/-- ████ FROM THE CONTRACT OF ONE GOROUTINE ALONE, AT EVERY TAPE. ████ -/
theorem safe_of_calls (hp : GoodP ok p) {f : FuncId} {args : Array Value} {w : World} {R : Value → World → Prop} (hf : ok f = true)
    (hc : ∀ (τ : Ans) (d : Nat) (o : Array (Nat × ByteArray)), Calls p f args (re w τ d o) fun e w' => ∃ v, e = .returned v ∧ R v w')
    (hQ : ∀ fr W τ d o v, fr.fn = f → fr.leaving p (re W τ d o) (.returned v) → R v (re W τ d o) → Q fr W) : Safe p Q (Frame.enter p f args .normal) [] w := by
  refine Classical.byContradiction fun hn => ?_
  let s0 : BadSt p ok Q := ⟨⟨Frame.enter p f args .normal, [], w⟩, ⟨goodF_enter hp hf, ⟨(fun c hc => absurd hc List.not_mem_nil), hn⟩⟩⟩
  let S := path s0
  let K : Nat → Nat := fun n => (nxt (S n)).2.1
  let F : Nat → Ans := fun n => (nxt (S n)).1
  let τ := tapeOf K F
  let Live : Nat → Prop := fun n => ∃ f k s', Move ok p Q (S n).1 f k s'
  have hmv : ∀ n, Live n → step p (lone (S n).1.fr ((S n).1.l ++ [trap]) (re (S n).1.w τ (V K n) #[])) = .next (lone (S (n + 1)).1.fr ((S (n + 1)).1.l ++ [trap]) (re (S (n + 1)).1.w τ (V K (n + 1)) #[])) := by
    intro n hl
    obtain ⟨u, hs⟩ := nxt_move hl
    exact step_solo_go rfl (hs [trap] true τ (V K n) #[] (tapeOf_agree K F n))
  have hrun : ∀ n, (∀ m, m < n → Live m) → runN p n (lone (S 0).1.fr ((S 0).1.l ++ [trap]) (re (S 0).1.w τ (V K 0) #[])) = .next (lone (S n).1.fr ((S n).1.l ++ [trap]) (re (S n).1.w τ (V K n) #[])) := by
    intro n
    induction n with
    | zero => exact fun _ => rfl
    | succ n ih =>
      intro hl
      rw [runN_add, ih fun m hm => hl m (by omega)]
      simp only [runN, hmv n (hl n (by omega))]
  obtain ⟨e, w', fr', ⟨v, rfl, hR⟩, ⟨N, hN⟩, hfn, hlv⟩ := hc τ 0 #[] [trap]
  have hN' : runN p N (lone (S 0).1.fr ((S 0).1.l ++ [trap]) (re (S 0).1.w τ (V K 0) #[])) = .next (lone fr' [trap] w') := hN
  have hmode : fr'.mode = .returning := hlv.1
  -- nothing stops ahead of N
  have hlive : ∀ m, m < N → Live m := by
    intro m
    induction m using Nat.strongRecOn with
    | ind m ih =>
      intro hm
      have hpre : ∀ j, j < m → Live j := fun j hj => ih j hj (by omega)
      have hat := hrun m hpre
      obtain ⟨r, rfl⟩ : ∃ r, N = m + (r + 1) := ⟨N - m - 1, by omega⟩
      rw [runN_add, hat] at hN'
      dsimp only at hN'
      refine Classical.byContradiction fun hnl => ?_
      rcases bad_next hp (S m).2 with ⟨hl0, hm0, _⟩ | ⟨g, k, hfall⟩ | hlv'
      · -- it has come to the end of the call: behind it stands the trap
        rw [hl0] at hN'
        have hout := out_trap (p := p) (w := re (S m).1.w τ (V K m) #[]) (S m).2.1 hm0
        rcases hout with ⟨oc, w1, he⟩ | ⟨w1, he⟩
        · exact Over.of_ended he r _ hN'
        · have hN2 : runN p r (solo (G trap []) w1) = .next (lone fr' [trap] w') := by
            rw [← hN']
            show _ = runN p (r + 1) (solo (G (S m).1.fr [trap]) (re (S m).1.w τ (V K m) #[]))
            simp [runN, he]
          cases r with
          | zero =>
            have := congrArg (fun m => (m.gs[0]?).map (·.callers)) (Stepped.next.inj hN2)
            simp [solo, lone, G] at this
          | succ r =>
            obtain ⟨oc, w2, he2⟩ := trap_ends (P := p) (w := w1)
            exact Over.of_ended he2 r _ hN2
      · have hf := nxt_falls hnl ⟨g, k, hfall⟩
        rcases hf [trap] true τ (V K m) #[] (tapeOf_agree K F m) with ⟨oc, W, u, he⟩ | ⟨chain, W, u, he⟩
        · exact Over.of_ended (step_solo_ended rfl he) r _ hN'
        · have hs := step_solo_go (P := p) rfl he
          have hN2 : runN p r (solo (G { (S m).1.fr with mode := .panicking chain } ((S m).1.l ++ [trap])) W) = .next (lone fr' [trap] w') := by
            rw [← hN']
            show _ = runN p (r + 1) (solo (G (S m).1.fr ((S m).1.l ++ [trap])) (re (S m).1.w τ (V K m) #[]))
            simp [runN, hs]
          exact unw_over r (.mid { (S m).1.fr with mode := .panicking chain } _ chain rfl (S m).2.1.defers fun c hc => ⟨((S m).2.2.1 c hc).1.defers, ((S m).2.2.1 c hc).2⟩) hN2 fr' w' rfl hmode
      · exact hnl hlv'
  have hat := hrun N hlive
  rw [hat] at hN'
  have he := Stepped.next.inj hN'
  have h1 : (S N).1.fr = fr' := by
    have := congrArg (fun m => (m.gs[0]?).map (·.frame)) he
    simpa [lone] using this
  have h2 : (S N).1.l ++ [trap] = [trap] := by
    have := congrArg (fun m => (m.gs[0]?).map (·.callers)) he
    simpa [lone] using this
  have h3 : re (S N).1.w τ (V K N) #[] = w' := congrArg (·.world) he
  have h4 : (S N).1.l = [] := by simpa using h2
  have hbad := (S N).2.2.2
  rw [h4] at hbad
  refine hbad (.exit _ _ (h1 ▸ hmode) ?_)
  rw [h1]
  subst h3
  exact hQ _ _ _ _ _ v hfn hlv hR
end path
end
end Go.Proofs.Ytlkhknoaifbajaa

/- A call by its contract of one goroutine alone, carried out by a machine in which all other goroutines only leave (or there are none). -/
namespace Go.Proofs.Ytlkhknoaifbajaa
open Go Go.Conc
open Go.ConcN (sumTo upd sumTo_upd upd_ne upd_same)
set_option linter.unusedVariables false
set_option linter.unusedSimpArgs false
set_option maxRecDepth 4000

/-- No place is shunned. -/
abbrev NoS : Loc → Prop := fun _ => False
theorem evL_of {B : Nat} {e : Event} (h : EvF B e) : EvL NoS B e := ⟨fun _ _ x => x.elim, h.1, h.2.1, h.2.2⟩

/-- A machine in which goroutine 0 is 'a' and all others only leave: what is held of it and of the trace so far. -/
structure Frm (P : Program) (a : Goroutine) (w : World) (gs : Array Goroutine) (t : Trace) (q : Nat → Nat) : Prop where
  zero : gs[0]? = some a
  leave : Leavers P t gs q
  past : Past NoS w.heap.size t

section
variable {P : Program}

/-- WHATEVER THE TAPE: from a frame with 'a' the machine comes to a frame of which Post holds. -/
def ToM (P : Program) (a : Goroutine) (w : World) (Post : Goroutine → World → Prop) : Prop :=
  ∀ (gs : Array Goroutine) (sl : Option (Nat × Nat)) (t : Trace) (q : Nat → Nat), Frm P a w gs t q →
    ∃ (N : Nat) (gs' : Array Goroutine) (a' : Goroutine) (w' : World) (sl' : Option (Nat × Nat)) (t' : Trace) (q' : Nat → Nat),
      runNT P N (crowd gs w sl) t = (.next (crowd gs' w' sl'), t') ∧ Post a' w' ∧ Frm P a' w' gs' t' q'

theorem ToM.done {a : Goroutine} {w : World} {Post : Goroutine → World → Prop} (h : Post a w) : ToM P a w Post :=
  fun gs sl t q hf => ⟨0, gs, a, w, sl, t, q, rfl, h, hf⟩
theorem ToM.trans {a : Goroutine} {w : World} {Mid Post : Goroutine → World → Prop} (h : ToM P a w Mid) (h' : ∀ a' w', Mid a' w' → ToM P a' w' Post) : ToM P a w Post := by
  intro gs sl t q hf
  obtain ⟨N, gs1, a1, w1, sl1, t1, q1, hr, hm, hf1⟩ := h gs sl t q hf
  obtain ⟨M, gs2, a2, w2, sl2, t2, q2, hr2, hp, hf2⟩ := h' a1 w1 hm gs1 sl1 t1 q1 hf1
  exact ⟨N + M, gs2, a2, w2, sl2, t2, q2, by rw [runNT_add, hr]; exact hr2, hp, hf2⟩

/-- ONE STEP of goroutine 0's, whatever the others' leaving and the scheduler draw ahead of it. -/
theorem ToM.step {a : Goroutine} {w : World} {Post : Goroutine → World → Prop} (hrun : a.status = .running)
    (h : ∀ d, ∃ a' w' es, stepG P true a (w.at d) = .go a' w' es ∧ w.heap.size ≤ w'.heap.size ∧ (∀ e ∈ es, EvF w'.heap.size e) ∧ ToM P a' w' Post) : ToM P a w Post := by
  intro gs sl t q hf
  obtain ⟨M, hM⟩ : ∃ M, sumTo gs.size q ≤ M := ⟨_, Nat.le_refl _⟩
  induction M generalizing gs sl t q w with
  | zero | succ M ih =>
    all_goals
    have haw : ∀ g ∈ gs, awake g := by
      intro g hg
      obtain ⟨i, hi, rfl⟩ := Array.mem_iff_getElem.1 hg
      rcases Nat.eq_zero_or_pos i with rfl | hpos
      · have : gs[0] = a := by simpa [Array.getElem?_eq_getElem hi] using hf.zero
        rw [this]; exact awake_of (.inl hrun)
      · exact awake_of ((hf.leave.old i _ hpos (Array.getElem?_eq_getElem hi)).status.elim .inl fun x => .inr (.inr x))
    obtain ⟨i, g, d, sl', hi, hg, hst⟩ := crowd_pick (P := P) (w := w) (sl := sl) haw ⟨0, a, hf.zero, hrun⟩
    rcases Nat.eq_zero_or_pos i with rfl | hpos
    · obtain rfl : g = a := by rw [hf.zero] at hi; exact (Option.some.inj hi).symm
      obtain ⟨a', w', es, hgo, hsz, hev, hto⟩ := h d
      have hrunT := runT_crowd_go (P := P) (sl := sl') (i := 0) hi (show stepG P (0 == 0) g (w.at d) = _ from hgo)
      have hlt : 0 < gs.size := (Array.getElem?_eq_some_iff.1 hf.zero).1
      have hf' : Frm P a' w' ((gs.map (woken P g a' w')).setIfInBounds 0 a') (t ++ MemOp.ofEvents 0 g.frame.fn g.frame.place es) q := by
        refine ⟨by simp [hlt], ⟨fun j x hj hx => ?_, fun j hj => ?_⟩, (hf.past.mono hsz).own fun e he => evL_of (hev e he)⟩
        · have hne : 0 ≠ j := by omega
          rw [Array.getElem?_setIfInBounds_ne hne, Array.getElem?_map] at hx
          obtain ⟨y, hy, rfl⟩ := Option.map_eq_some_iff.1 hx
          have hq := hf.leave.old j y hj hy
          rw [woken_quitsD hq, Deaf_other t (by omega) _ (fun op hop => by obtain ⟨e, _, rfl⟩ := Go.Conc.mem_ofEvents hop; rfl)]
          exact hq
        · rw [Deaf_other t (g' := 0) (by simp at hj; omega) _ (fun op hop => by obtain ⟨e, _, rfl⟩ := Go.Conc.mem_ofEvents hop; rfl)]
          exact hf.leave.above j (by simpa using hj)
      obtain ⟨N, gs2, a2, w2, sl2, t2, q2, hr, hp, hf2⟩ := hto _ sl' _ q hf'
      exact ⟨N + 1, gs2, a2, w2, sl2, t2, q2, by simp only [runNT, hst, hrunT]; exact hr, hp, hf2⟩
    · have hq := hf.leave.old i g hpos hi
      have hi0 : (i == 0) = false := by simp; omega
      have hlt : i < gs.size := (Array.getElem?_eq_some_iff.1 hi).1
      cases hqi : q i with
      | zero => rw [hqi] at hq; rw [hq.1] at hg; cases hg
      | succ k =>
        rw [hqi] at hq
        rcases hq with ⟨hfin, _⟩ | ⟨_, g', es, hm, hstp, hq'⟩
        · rw [hfin] at hg; cases hg
        have hrunT := runT_crowd_go (P := P) (sl := sl') (i := i) hi (by rw [hi0]; exact hstp (w.at d))
        have hsz : ((gs.map (woken P g g' (w.at d))).setIfInBounds i g').size = gs.size := by simp
        have hsum : sumTo gs.size (upd q i k) + (k + 1) = sumTo gs.size q + k := by
          have := sumTo_upd q k id hlt
          simpa [hqi] using this
        have hf' : Frm P a (w.at d) ((gs.map (woken P g g' (w.at d))).setIfInBounds i g') (t ++ MemOp.ofEvents i g.frame.fn g.frame.place es) (upd q i k) := by
          refine ⟨?_, ⟨fun j x hj hx => ?_, fun j hj => ?_⟩, hf.past.mute (by omega) hm⟩
          · have hne : i ≠ 0 := by omega
            rw [Array.getElem?_setIfInBounds_ne hne, Array.getElem?_map, hf.zero]
            simp [woken_run hrun]
          · by_cases hji : i = j
            · subst hji
              rw [Array.getElem?_setIfInBounds_self_of_lt (by simpa using hlt)] at hx
              obtain rfl := Option.some.inj hx
              rw [upd_same, Deaf_own]
              exact hq'
            · rw [Array.getElem?_setIfInBounds_ne hji, Array.getElem?_map] at hx
              obtain ⟨y, hy, rfl⟩ := Option.map_eq_some_iff.1 hx
              have hqj := hf.leave.old j y hj hy
              rw [woken_quitsD hqj, upd_ne q k (Ne.symm hji), Deaf_other t hji _ (fun op hop => by obtain ⟨e, _, rfl⟩ := Go.Conc.mem_ofEvents hop; rfl)]
              exact hqj
          · rw [Deaf_other t (g' := i) (by simp at hj; omega) _ (fun op hop => by obtain ⟨e, _, rfl⟩ := Go.Conc.mem_ofEvents hop; rfl)]
            exact hf.leave.above j (by simpa using hj)
        first
        | (exfalso; omega)
        | (obtain ⟨N, gs2, a2, w2, sl2, t2, q2, hr, hp, hf2⟩ := ih (w := w.at d) (fun d' => h d') _ sl' _ _ hf' (by rw [hsz]; omega)
           exact ⟨N + 1, gs2, a2, w2, sl2, t2, q2, by simp only [runNT, hst, hrunT]; exact hr, hp, hf2⟩)

/-- ████ A WALK THAT IS SAFE, CARRIED OUT. ████ -/
theorem toM_safe {Q : Frame → World → Prop} {fr : Frame} {l : List Frame} {w0 : World} (hs : Safe P Q fr l w0) : ∀ (base : List Frame) (τ : Ans) (d : Nat) (o : Array (Nat × ByteArray)),
    ToM P (G fr (l ++ base)) (re w0 τ d o) fun a' w' => ∃ fr' W d', a' = G fr' base ∧ w' = re W τ d' o ∧ fr'.mode = .returning ∧ Q fr' W := by
  induction hs with
  | exit fr w hm hq => exact fun base τ d o => ToM.done ⟨fr, w, d, rfl, rfl, hm, hq⟩
  | step fr l w k fr' l' W u hne h rec ih =>
    intro base τ d o
    refine ToM.step rfl fun d' => ?_
    obtain ⟨hsz, hev, hsame⟩ := h (fun i q => τ (d' + i) q)
    exact ⟨_, _, _, hsame base true τ d' o (fun i _ q => rfl), hsz, hev, ih _ base τ _ o⟩
end
end Go.Proofs.Ytlkhknoaifbajaa
