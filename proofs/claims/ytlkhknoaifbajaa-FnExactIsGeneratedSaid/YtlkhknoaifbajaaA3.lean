/- Merged: Lt1. -/
import Derived.Conc.Beside
/- What an operation does to the world hangs on the tape only by the answers that it draws: a run of it at another tape with the same answers is the same run. And which accesses it lists. -/
namespace Go.Proofs.Ytlkhknoaifbajaa
open Go Go.Conc
set_option linter.unusedVariables false
set_option linter.unusedSimpArgs false

/-- The world with another tape, another count of draws and another record of output. -/
def re (w : World) (f : Nat → Question → Nat) (d : Nat) (o : Array (Nat × ByteArray)) : World := { w with tape := f, drawn := d, output := o }
theorem re_heap (w : World) (f : Nat → Question → Nat) (d : Nat) (o : Array (Nat × ByteArray)) : (re w f d o).heap = w.heap := rfl
theorem re_re (w : World) (f g : Nat → Question → Nat) (d e : Nat) (o o' : Array (Nat × ByteArray)) : re (re w f d o) g e o' = re w g e o' := rfl
theorem re_self (w : World) : re w w.tape w.drawn w.output = w := rfl

def rRe {α : Type} (r : Result α) (f : Nat → Question → Nat) (d : Nat) (o : Array (Nat × ByteArray)) : Result α :=
  match r with
  | .ok a w => .ok a (re w f d o)
  | .halt h w => .halt h (re w f d o)
def rW {α : Type} : Result α → World
  | .ok _ w => w
  | .halt _ w => w

/-- An entry that turns nobody's hearing and names blocks below B alone. -/
def EvF (B : Nat) (e : Event) : Prop := e.loc ≠ .mark .disable ∧ e.loc ≠ .mark .enable ∧ (MemAct.ofEvent e).low B
theorem EvF.mono {B B' : Nat} {e : Event} (h : EvF B e) (hB : B ≤ B') : EvF B' e := ⟨h.1, h.2.1, MemAct.low_mono hB h.2.2⟩
theorem evF_cell {B : Nat} {a : Addr} (wr sy : Bool) (h : a.block < B) : EvF B ⟨.cell a, wr, sy⟩ := ⟨by simp, by simp, by cases wr <;> cases sy <;> exact h⟩
theorem evF_obj {B r : Nat} (wr sy : Bool) (h : r < B) : EvF B ⟨.obj r, wr, sy⟩ := ⟨by simp, by simp, by cases wr <;> cases sy <;> exact h⟩

def okMark (m : Mark) : Prop := m = .noRoom ∨ ∃ f, m = .extern f
theorem evF_mark {B : Nat} {m : Mark} (wr sy : Bool) (h : okMark m) : EvF B ⟨.mark m, wr, sy⟩ := by
  rcases h with rfl | ⟨f, rfl⟩ <;> exact ⟨by simp, by simp, by cases wr <;> cases sy <;> trivial⟩

def okH : Halt → Prop
  | .panic _ => True
  | .stuck _ => True
  | .unsupported _ => True
  | _ => False

/-- No system call; no word of the library's but those that say nothing; no halt but a panic and those that end the run; what it yields meets 'ok'. -/
def Tame (p : Program) {α : Type} (ok : α → Prop) : Sem α → Prop
  | .pure a => ok a
  | .load _ _ k => ∀ v, Tame p ok (k v)
  | .store _ _ _ k => Tame p ok k
  | .new _ k => ∀ r, Tame p ok (k r)
  | .shape _ k => ∀ x, Tame p ok (k x)
  | .freeze _ _ k => Tame p ok k
  | .frozen _ k => ∀ b, Tame p ok (k b)
  | .getObj _ k => ∀ x, Tame p ok (k x)
  | .setObj _ _ k => Tame p ok k
  | .choose _ k => ∀ n, Tame p ok (k n)
  | .sys _ _ => False
  | .program k => Tame p ok (k p)
  | .mark m k => okMark m ∧ Tame p ok k
  | .halt h => okH h

theorem Tame.mono {p : Program} {α : Type} {ok ok' : α → Prop} (hk : ∀ a, ok a → ok' a) : ∀ {s : Sem α}, Tame p ok s → Tame p ok' s := by
  intro s
  induction s with
  | pure a => exact hk a
  | load m a k ih => exact fun h v => ih v (h v)
  | store m a v k ih => exact fun h => ih h
  | new o k ih => exact fun h r => ih r (h r)
  | shape r k ih => exact fun h r => ih r (h r)
  | freeze a n k ih => exact fun h => ih h
  | frozen a k ih => exact fun h r => ih r (h r)
  | getObj r k ih => exact fun h r => ih r (h r)
  | setObj r o k ih => exact fun h => ih h
  | choose q k ih => exact fun h r => ih r (h r)
  | sys c k ih => exact fun h => h
  | program k ih => exact fun h => ih p h
  | mark m k ih => exact fun h => ⟨h.1, ih h.2⟩
  | halt h => exact fun h => h

theorem Tame.bind {p : Program} {α β : Type} {ok : α → Prop} {ok' : β → Prop} {f : α → Sem β} (hf : ∀ a, ok a → Tame p ok' (f a)) : ∀ {s : Sem α}, Tame p ok s → Tame p ok' (s >>= f) := by
  intro s
  show Tame p ok s → Tame p ok' (s.bind f)
  induction s with
  | pure a => exact hf a
  | load m a k ih => exact fun h v => ih v (h v)
  | store m a v k ih => exact fun h => ih h
  | new o k ih => exact fun h r => ih r (h r)
  | shape r k ih => exact fun h r => ih r (h r)
  | freeze a n k ih => exact fun h => ih h
  | frozen a k ih => exact fun h r => ih r (h r)
  | getObj r k ih => exact fun h r => ih r (h r)
  | setObj r o k ih => exact fun h => ih h
  | choose q k ih => exact fun h r => ih r (h r)
  | sys c k ih => exact fun h => h.elim
  | program k ih => exact fun h => ih p h
  | mark m k ih => exact fun h => ⟨h.1, ih h.2⟩
  | halt h => exact fun h => h

theorem cell_low {w : World} {a : Addr} {v : Value} (h : w.cell? a = some v) : a.block < w.heap.size := by
  unfold World.cell? at h
  rcases Nat.lt_or_ge a.block w.heap.size with h' | h'
  · exact h'
  · rw [Array.getElem?_eq_none h'] at h; cases h
theorem heap_low {w : World} {r : Nat} {o : Obj} (h : w.heap[r]? = some o) : r < w.heap.size := by
  rcases Nat.lt_or_ge r w.heap.size with h' | h'
  · exact h'
  · rw [Array.getElem?_eq_none h'] at h; cases h

theorem seen_low {p : Program} {w : World} {at_ k : Addr} {u : TypeId} {b : Bool} {x} (h : w.seen p at_ u k b = .ok x) : at_.block < w.heap.size := by
  rcases Nat.lt_or_ge at_.block w.heap.size with h' | h'
  · exact h'
  · exfalso
    have hn : w.heap[at_.block]? = none := Array.getElem?_eq_none h'
    simp only [World.seen, hn, bind, Except.bind, pure, Except.pure, throw, throwThe, MonadExceptOf.throw] at h
    (repeat' split at h) <;> cases h
theorem farLoad_low {p : Program} {w : World} {a : Addr} {b : Bool} {v : Value} {l : List Addr} (h : w.farLoad p a b = .ok (v, l)) : ∀ x ∈ l, x.block < w.heap.size := by
  unfold World.farLoad at h
  split at h
  · split at h
    · rename_i r hr
      obtain rfl := Except.ok.inj h
      simp only [World.viewLoad, bind, Except.bind, pure, Except.pure, throw, throwThe, MonadExceptOf.throw] at hr
      split at hr
      · cases hr
      · rename_i y hy
        split at hr
        · obtain ⟨rfl, rfl⟩ := Prod.mk.inj (Except.ok.inj hr)
          intro x hx
          obtain ⟨z, _, rfl⟩ := List.mem_map.1 hx
          have := seen_low hy
          exact this
        · cases hr
    · cases h
  · cases h
theorem viewStore_re {p : Program} {w : World} {at_ k : Addr} {u : TypeId} {v : Value} {b : Bool} (f : Nat → Question → Nat) (d : Nat) (o : Array (Nat × ByteArray)) :
    (re w f d o).viewStore p at_ u k v b = match w.viewStore p at_ u k v b with | .ok (w', l) => .ok (re w' f d o, l) | .error h => .error h := by
  have hs : (re w f d o).seen p at_ u k b = w.seen p at_ u k b := rfl
  simp only [World.viewStore, hs, bind, Except.bind, pure, Except.pure, throw, throwThe, MonadExceptOf.throw]
  (repeat' split) <;> simp_all [re]
  all_goals
    rename_i hq
    obtain ⟨rfl, rfl⟩ := hq
    simp
theorem viewStore_low {p : Program} {w w' : World} {at_ k : Addr} {u : TypeId} {v : Value} {b : Bool} {l : List Addr} (h : w.viewStore p at_ u k v b = .ok (w', l)) : w'.heap.size = w.heap.size ∧ ∀ x ∈ l, x.block < w.heap.size := by
  simp only [World.viewStore, bind, Except.bind, pure, Except.pure, throw, throwThe, MonadExceptOf.throw] at h
  (repeat' split at h) <;> first | (cases h; done) | skip
  all_goals
    obtain ⟨rfl, rfl⟩ := Prod.mk.inj (Except.ok.inj h)
    refine ⟨by simp, fun x hx => ?_⟩
    obtain ⟨z, _, rfl⟩ := List.mem_map.1 hx
    rename_i y hy _ _ _ _ _ _ _
    have := seen_low (p := p) (w := w) (by assumption)
    exact this
theorem farStore_re {p : Program} {w : World} {a : Addr} {v : Value} {b : Bool} (f : Nat → Question → Nat) (d : Nat) (o : Array (Nat × ByteArray)) :
    (re w f d o).farStore p a v b = match w.farStore p a v b with | .ok (w', l) => .ok (re w' f d o, l) | .error h => .error h := by
  unfold World.farStore
  rw [re_heap]
  split
  · rw [viewStore_re]
    cases w.viewStore p _ _ a v b <;> rfl
  · rfl
theorem farStore_low {p : Program} {w w' : World} {a : Addr} {v : Value} {b : Bool} {l : List Addr} (h : w.farStore p a v b = .ok (w', l)) : w'.heap.size = w.heap.size ∧ ∀ x ∈ l, x.block < w.heap.size := by
  unfold World.farStore at h
  split at h
  · split at h
    · rename_i r hr
      obtain rfl := Except.ok.inj h
      exact viewStore_low hr
    · cases h
  · cases h

def okR {α : Type} (ok : α → Prop) : Result α → Prop
  | .ok a _ => ok a
  | .halt h _ => okH h

/-- ████ THE RUN OF A TAME OPERATION. 'f': the answers from now on; k of them are drawn. ████ -/
theorem Tame.run {p : Program} {α : Type} {ok : α → Prop} : ∀ {s : Sem α}, Tame p ok s → ∀ (w : World) (f : Nat → Question → Nat),
    ∃ (r : Result α) (k : Nat) (u : Array Event), (∀ (τ : Nat → Question → Nat) (d : Nat) (o : Array (Nat × ByteArray)) (es : Array Event), (∀ i, i < k → ∀ q, τ (d + i) q = f i q) →
        s.runT p (re w τ d o) es = (rRe r τ (d + k) o, es ++ u)) ∧
      w.heap.size ≤ (rW r).heap.size ∧ (∀ e ∈ u, EvF (rW r).heap.size e) ∧ okR ok r := by
  intro s
  induction s with
  | pure a => exact fun h w f => ⟨.ok a w, 0, #[], fun τ d o es _ => by simp [Sem.runT, rRe], Nat.le_refl _, by simp, h⟩
  | load m a k ih =>
    intro h w f
    cases hc : w.cell? a with
    | some v =>
      obtain ⟨r, n, u, hr, hs, hu, hk⟩ := ih v (h v) w f
      refine ⟨r, n, #[⟨.cell a, false, m == .atomic⟩] ++ u, fun τ d o es ha => ?_, hs, fun e he => ?_, hk⟩
      · have hc' : (re w τ d o).cell? a = some v := hc
        simp only [Sem.runT, hc', hr τ d o _ ha, Array.push_eq_append, Array.append_assoc]
      · rcases Array.mem_append.1 he with he | he
        · simp only [List.mem_toArray, List.mem_cons, List.not_mem_nil, or_false] at he
          subst he
          exact evF_cell _ _ (Nat.lt_of_lt_of_le (cell_low hc) hs)
        · exact hu e he
    | none =>
      cases hl : w.farLoad p a (m == .atomic) with
      | ok x =>
        obtain ⟨v, l⟩ := x
        obtain ⟨r, n, u, hr, hs, hu, hk⟩ := ih v (h v) w f
        refine ⟨r, n, l.toArray.map (⟨.cell ·, false, m == .atomic⟩) ++ u, fun τ d o es ha => ?_, hs, fun e he => ?_, hk⟩
        · have hc' : (re w τ d o).cell? a = none := hc
          have hl' : (re w τ d o).farLoad p a (m == .atomic) = .ok (v, l) := hl
          simp only [Sem.runT, hc', hl', hr τ d o _ ha, Array.append_assoc]
        · rcases Array.mem_append.1 he with he | he
          · obtain ⟨x, hx, rfl⟩ := Array.mem_map.1 he
            exact evF_cell _ _ (Nat.lt_of_lt_of_le (farLoad_low hl x (by simpa using hx)) hs)
          · exact hu e he
      | error e =>
        refine ⟨.halt e w, 0, #[], fun τ d o es _ => ?_, Nat.le_refl _, by simp, ?_⟩
        · have hc' : (re w τ d o).cell? a = none := hc
          have hl' : (re w τ d o).farLoad p a (m == .atomic) = .error e := hl
          simp [-Sem.runT_eq, Sem.runT, hc', hl', rRe]
        · unfold World.farLoad at hl
          show okH e
          split at hl
          · split at hl <;> cases hl; trivial
          · cases hl
            unfold World.noCell
            split <;> trivial
  | store m a v k ih =>
    intro h w f
    by_cases hv : (∃ x, v = .agg x) ∨ ∃ x, v = .tuple x
    · refine ⟨.halt (.stuck "store: not the value of one cell") w, 0, #[], fun τ d o es _ => ?_, Nat.le_refl _, by simp, trivial⟩
      rcases hv with ⟨x, rfl⟩ | ⟨x, rfl⟩ <;> simp [Sem.runT, rRe]
    · have hrun : ∀ (W : World) (es : Array Event), (Sem.store m a v k).runT p W es = match W.cell? a with
          | some _ =>
            if W.frozen? a then (.halt (.unsupported (.unsafePointer "a write to bytes that a string shares")) W, es)
            else k.runT p (W.setCell a v) (es.push ⟨.cell a, true, m == .atomic⟩)
          | none => match W.farStore p a v (m == .atomic) with
            | .ok (W', touched) => k.runT p W' (es ++ touched.toArray.map (⟨.cell ·, true, m == .atomic⟩))
            | .error h => (.halt h W, es) := by
        intro W es
        cases v <;> first | rfl | (exfalso; exact hv (by simp))
      cases hc : w.cell? a with
      | some x =>
        by_cases hf : w.frozen? a = true
        · refine ⟨.halt (.unsupported (.unsafePointer "a write to bytes that a string shares")) w, 0, #[], fun τ d o es _ => ?_, Nat.le_refl _, by simp, trivial⟩
          have hc' : (re w τ d o).cell? a = some x := hc
          have hf' : (re w τ d o).frozen? a = true := hf
          rw [hrun]
          simp [hc', hf', rRe]
        · obtain ⟨r, n, u, hr, hs, hu, hk⟩ := ih h (w.setCell a v) f
          have hsz : (w.setCell a v).heap.size = w.heap.size := by simp [World.setCell]
          refine ⟨r, n, #[⟨.cell a, true, m == .atomic⟩] ++ u, fun τ d o es ha => ?_, by omega, fun e he => ?_, hk⟩
          · have hc' : (re w τ d o).cell? a = some x := hc
            have hf' : (re w τ d o).frozen? a = false := by have : w.frozen? a = false := by simpa using hf
                                                            exact this
            have hset : (re w τ d o).setCell a v = re (w.setCell a v) τ d o := rfl
            rw [hrun]
            simp only [hc', hf', hset, Bool.false_eq_true, if_false, hr τ d o _ ha, Array.push_eq_append, Array.append_assoc]
          · rcases Array.mem_append.1 he with he | he
            · simp only [List.mem_toArray, List.mem_cons, List.not_mem_nil, or_false] at he
              subst he
              exact evF_cell _ _ (by have := cell_low hc; omega)
            · exact hu e he
      | none =>
        cases hl : w.farStore p a v (m == .atomic) with
        | ok x =>
          obtain ⟨w', l⟩ := x
          obtain ⟨hsz, hlow⟩ := farStore_low hl
          obtain ⟨r, n, u, hr, hs, hu, hk⟩ := ih h w' f
          refine ⟨r, n, l.toArray.map (⟨.cell ·, true, m == .atomic⟩) ++ u, fun τ d o es ha => ?_, by omega, fun e he => ?_, hk⟩
          · have hc' : (re w τ d o).cell? a = none := hc
            rw [hrun]
            simp only [hc', farStore_re, hl, hr τ d o _ ha, Array.append_assoc]
          · rcases Array.mem_append.1 he with he | he
            · obtain ⟨x, hx, rfl⟩ := Array.mem_map.1 he
              exact evF_cell _ _ (by have := hlow x (by simpa using hx); omega)
            · exact hu e he
        | error e =>
          refine ⟨.halt e w, 0, #[], fun τ d o es _ => ?_, Nat.le_refl _, by simp, ?_⟩
          · have hc' : (re w τ d o).cell? a = none := hc
            rw [hrun]
            simp [hc', farStore_re, hl, rRe]
          · unfold World.farStore at hl
            show okH e
            split at hl
            · split at hl <;> cases hl; trivial
            · cases hl
              unfold World.noCell
              split <;> trivial
  | new ob k ih =>
    intro h w f
    obtain ⟨r, n, u, hr, hs, hu, hk⟩ := ih w.heap.size (h _) { w with heap := w.heap.push ob } f
    refine ⟨r, n, u, fun τ d o es ha => ?_, by simp at hs; omega, hu, hk⟩
    have := hr τ d o es ha
    simp only [Sem.runT]
    exact this
  | shape x k ih =>
    intro h w f
    obtain ⟨r, n, u, hr, hs, hu, hk⟩ := ih (w.shape? x) (h _) w f
    exact ⟨r, n, u, fun τ d o es ha => by simp only [Sem.runT]; exact hr τ d o es ha, hs, hu, hk⟩
  | freeze a m k ih =>
    intro h w f
    obtain ⟨r, n, u, hr, hs, hu, hk⟩ := ih h (w.freeze a m) f
    have hsz : (w.freeze a m).heap.size = w.heap.size := by unfold World.freeze; split <;> simp
    refine ⟨r, n, u, fun τ d o es ha => ?_, by omega, hu, hk⟩
    have hfr : (re w τ d o).freeze a m = re (w.freeze a m) τ d o := by unfold World.freeze; split <;> rfl
    simp only [Sem.runT, hfr]
    exact hr τ d o es ha
  | frozen a k ih =>
    intro h w f
    obtain ⟨r, n, u, hr, hs, hu, hk⟩ := ih (w.frozen? a) (h _) w f
    exact ⟨r, n, u, fun τ d o es ha => by simp only [Sem.runT]; exact hr τ d o es ha, hs, hu, hk⟩
  | getObj x k ih =>
    intro h w f
    have hrun : ∀ (W : World) (es : Array Event), (Sem.getObj x k).runT p W es = match W.heap[x]? with
        | some (.cells ..) => (.halt (.stuck "getObj: a row of cells") W, es)
        | some o => (k o).runT p W (es.push ⟨.obj x, false, o.isChan⟩)
        | none => (.halt (.stuck "getObj: no such block") W, es) := fun W es => by
      cases hX : W.heap[x]? with
      | none => simp [-Sem.runT_eq, Sem.runT, hX]
      | some o => cases o <;> simp [-Sem.runT_eq, Sem.runT, hX]
    cases hx : w.heap[x]? with
    | none =>
      refine ⟨.halt (.stuck "getObj: no such block") w, 0, #[], fun τ d o es _ => ?_, Nat.le_refl _, by simp, trivial⟩
      rw [hrun, re_heap, hx]
      simp [rRe]
    | some ob =>
      by_cases hcl : ∃ a b c, ob = .cells a b c
      · obtain ⟨a, b, c, rfl⟩ := hcl
        refine ⟨.halt (.stuck "getObj: a row of cells") w, 0, #[], fun τ d o es _ => ?_, Nat.le_refl _, by simp, trivial⟩
        rw [hrun, re_heap, hx]
        simp [rRe]
      · obtain ⟨r, n, u, hr, hs, hu, hk⟩ := ih ob (h _) w f
        refine ⟨r, n, #[⟨.obj x, false, ob.isChan⟩] ++ u, fun τ d o es ha => ?_, hs, fun e he => ?_, hk⟩
        · rw [hrun, re_heap, hx]
          cases ob <;> first | (exfalso; exact hcl ⟨_, _, _, rfl⟩) | simp only [hr τ d o _ ha, Array.push_eq_append, Array.append_assoc]
        · rcases Array.mem_append.1 he with he | he
          · simp only [List.mem_toArray, List.mem_cons, List.not_mem_nil, or_false] at he
            subst he
            exact evF_obj _ _ (Nat.lt_of_lt_of_le (heap_low hx) hs)
          · exact hu e he
  | setObj x ob k ih =>
    intro h w f
    have hrun : ∀ (W : World) (es : Array Event), (Sem.setObj x ob k).runT p W es = match W.heap[x]? with
        | some (.cells ..) => (.halt (.stuck "setObj: a row of cells") W, es)
        | some _ => k.runT p { W with heap := W.heap.setIfInBounds x ob } (es.push ⟨.obj x, true, ob.isChan⟩)
        | none => (.halt (.stuck "setObj: no such block") W, es) := fun W es => by
      cases hX : W.heap[x]? with
      | none => simp [-Sem.runT_eq, Sem.runT, hX]
      | some o => cases o <;> simp [-Sem.runT_eq, Sem.runT, hX]
    cases hx : w.heap[x]? with
    | none =>
      refine ⟨.halt (.stuck "setObj: no such block") w, 0, #[], fun τ d o es _ => ?_, Nat.le_refl _, by simp, trivial⟩
      rw [hrun, re_heap, hx]
      simp [rRe]
    | some old =>
      by_cases hcl : ∃ a b c, old = .cells a b c
      · obtain ⟨a, b, c, rfl⟩ := hcl
        refine ⟨.halt (.stuck "setObj: a row of cells") w, 0, #[], fun τ d o es _ => ?_, Nat.le_refl _, by simp, trivial⟩
        rw [hrun, re_heap, hx]
        simp [rRe]
      · obtain ⟨r, n, u, hr, hs, hu, hk⟩ := ih h { w with heap := w.heap.setIfInBounds x ob } f
        have hsz : (w.heap.setIfInBounds x ob).size = w.heap.size := by simp
        refine ⟨r, n, #[⟨.obj x, true, ob.isChan⟩] ++ u, fun τ d o es ha => ?_, by simp at hs; omega, fun e he => ?_, hk⟩
        · have hw : ({ re w τ d o with heap := (re w τ d o).heap.setIfInBounds x ob } : World) = re { w with heap := w.heap.setIfInBounds x ob } τ d o := rfl
          rw [hrun, hw, re_heap, hx]
          cases old <;> first | (exfalso; exact hcl ⟨_, _, _, rfl⟩) | simp only [hr τ d o _ ha, Array.push_eq_append, Array.append_assoc]
        · rcases Array.mem_append.1 he with he | he
          · simp only [List.mem_toArray, List.mem_cons, List.not_mem_nil, or_false] at he
            subst he
            exact evF_obj _ _ (by have := heap_low hx; simp at hs; omega)
          · exact hu e he
  | choose q k ih =>
    intro h w f
    by_cases hq : q.forced = true
    · obtain ⟨r, n, u, hr, hs, hu, hk⟩ := ih 0 (h _) w f
      exact ⟨r, n, u, fun τ d o es ha => by simp only [Sem.runT, hq, if_true]; exact hr τ d o es ha, hs, hu, hk⟩
    · obtain ⟨r, n, u, hr, hs, hu, hk⟩ := ih (q.cut (f 0 q)) (h _) w (fun i => f (i + 1))
      refine ⟨r, n + 1, u, fun τ d o es ha => ?_, hs, hu, hk⟩
      have h0 : τ d q = f 0 q := by simpa using ha 0 (by omega) q
      have hq' : q.forced = false := by simpa using hq
      have hrun : (Sem.choose q k).runT p (re w τ d o) es = (k (q.cut (τ d q))).runT p (re w τ (d + 1) o) es := by
        simp only [Sem.runT, hq', Bool.false_eq_true, if_false]
        rfl
      rw [hrun, h0, hr τ (d + 1) o es (fun i hi q => by have := ha (i + 1) (by omega) q; rw [← this]; congr 1; omega)]
      congr 2
      omega
  | sys c k ih => exact fun h => h.elim
  | program k ih =>
    intro h w f
    obtain ⟨r, n, u, hr, hs, hu, hk⟩ := ih p h w f
    exact ⟨r, n, u, fun τ d o es ha => by simp only [Sem.runT]; exact hr τ d o es ha, hs, hu, hk⟩
  | mark m k ih =>
    intro h w f
    obtain ⟨r, n, u, hr, hs, hu, hk⟩ := ih h.2 w f
    refine ⟨r, n, #[⟨.mark m, false, true⟩] ++ u, fun τ d o es ha => ?_, hs, fun e he => ?_, hk⟩
    · simp only [Sem.runT, hr τ d o _ ha, Array.push_eq_append, Array.append_assoc]
    · rcases Array.mem_append.1 he with he | he
      · simp only [List.mem_toArray, List.mem_cons, List.not_mem_nil, or_false] at he
        subst he
        exact evF_mark _ _ h.1
      · exact hu e he
  | halt hh => exact fun h w f => ⟨.halt hh w, 0, #[], fun τ d o es _ => by simp [Sem.runT, rRe], Nat.le_refl _, by simp, h⟩

end Go.Proofs.Ytlkhknoaifbajaa
