/- Merged: Ph1 Ph2 Ph3 Ph4 Ph5 Ph6 Ph7 Gj Gk Gp. -/
import Derived.Test.YtlkhknoaifbajaaA7
import Derived.Conc.TokenTrace
import Derived.Conc.Token
import Derived.Conc.Crowd
import Derived.Conc.CompanyMem
import Derived.Conc.CompanyWords
import Derived.Conc.CompanyCalls
import Derived.RowKit
import Derived.Test.YtlkhknoaifbajaaChecked
import Derived.Laws.Externs
import Derived.KernelRfl
/- A sender and a receiver over a channel with a buffer, both of which make memory: THE TRACE's SIDE. Goroutine 0 receives; goroutine p sends. Blocks below B0 were there at the go statement: they are read alone. Blocks from B0 on are of the receiver's make ('C') or of the sender's; what has been sent ('Sent') the sender touches no more; what has been received ('Got') the receiver may touch. -/
namespace Go.Proofs.Ytlkhknoaifbajaa
open Go Go.Conc
set_option linter.unusedVariables false
set_option linter.unusedSimpArgs false

def blockOf : Loc → Option Nat
  | .cell a => some a.block
  | .obj r => some r
  | _ => none

/-- What may be touched by whom. -/
def MayC (B0 : Nat) (C Got : Nat → Prop) (x : Touch) : Prop := ∃ b, blockOf x.loc = some b ∧ ((x.write = false ∧ b < B0) ∨ (B0 ≤ b ∧ (C b ∨ Got b)))
def MayP (B0 : Nat) (C Sent : Nat → Prop) (x : Touch) : Prop := ∃ b, blockOf x.loc = some b ∧ ((x.write = false ∧ b < B0) ∨ (B0 ≤ b ∧ ¬ C b ∧ ¬ Sent b))

/-- A message that has been sent and not been received: the k-th of the channel; its blocks. -/
def Pending (c : Nat) (t : Trace) (k : Nat) (rows : Nat → Prop) : Prop :=
  ∃ m, t.act? m = some (.send c k) ∧ t.heard m ∧ ∀ i a b, touchAt t i = some a → blockOf a.loc = some b → rows b → Before t i m

structure Two (B0 p c : Nat) (C Got Sent : Nat → Prop) (pend : List (Nat × (Nat → Prop))) (B : Nat) (t : Trace) : Prop where
  clean : ∀ said, ¬ Race said t
  touch : ∀ i a, touchAt t i = some a → a.loc.isMemory = true → (Knows t 0 i ∧ Knows t p i) ∨ (Knows t 0 i ∧ MayC B0 C Got a) ∨ (Knows t p i ∧ ∃ b, blockOf a.loc = some b ∧ ((a.write = false ∧ b < B0) ∨ (B0 ≤ b ∧ ¬ C b)))
  got : ∀ i a b, touchAt t i = some a → blockOf a.loc = some b → Got b → Knows t 0 i
  pends : ∀ x ∈ pend, Pending c t x.1 x.2
  gotSent : ∀ b, Got b → Sent b
  pendSent : ∀ x ∈ pend, ∀ b, x.2 b → Sent b
  hears0 : Deaf t 0 = 0
  hearsp : Deaf t p = 0
  seen : ∀ op ∈ t, op.act.low B

theorem mem_block {l : Loc} (h : l.isMemory = true) : ∃ b, blockOf l = some b := by
  cases l <;> first | exact ⟨_, rfl⟩ | cases h
theorem low_block {x : MemAct} {a : Touch} {b B : Nat} (hl : x.low B) (ht : x.touch? = some a) (hb : blockOf a.loc = some b) : b < B := by
  cases x with
  | access e =>
    simp only [MemAct.touch?, Option.some.injEq] at ht
    subst ht
    obtain ⟨loc, wr, sy⟩ := e
    cases loc <;> simp_all [blockOf, MemAct.low, Loc.low]
  | mark m => cases m <;> simp_all [MemAct.touch?, blockOf, MemAct.low] <;> (subst ht; simp_all [blockOf])
  | _ => cases ht

section
variable {B0 p c : Nat} {C Got Sent : Nat → Prop} {pend : List (Nat × (Nat → Prop))} {B : Nat} {t u : Trace}

theorem heard_app {m : Nat} (hm : m < t.size) (h : t.heard m) : (t ++ u).heard m := by
  obtain ⟨g, hg, hd⟩ := h
  exact ⟨g, by rw [g?_old hm]; exact hg, by rw [deaf_old (Nat.le_of_lt hm)]; exact hd⟩

/-- Kept while nobody touches the rows. -/
theorem Pending.app {k : Nat} {rows : Nat → Prop} (h : Pending c t k rows) (hu : ∀ op ∈ u, ∀ a b, op.act.touch? = some a → blockOf a.loc = some b → ¬ rows b) : Pending c (t ++ u) k rows := by
  obtain ⟨m, hm, hh, hall⟩ := h
  have hlt := lt_of_act? hm
  refine ⟨m, by rw [act?_old hlt]; exact hm, heard_app hlt hh, fun i a b ha hb hr => ?_⟩
  obtain ⟨x, hx, hxa⟩ := touch_of ha
  rcases getElem?_append_cases hx with ⟨_, hx'⟩ | ⟨_, hxu⟩
  · exact (hall i a b (by rw [touchAt_of hx']; exact hxa) hb hr).app u
  · exact absurd hr (hu x hxu a b hxa hb)

/-- The blocks' making may be told anew for blocks that are not there yet. -/
theorem Two.recast {C' : Nat → Prop} {B' : Nat} (h : Two B0 p c C Got Sent pend B t) (hC : ∀ b, b < B → (C' b ↔ C b)) (hB : B ≤ B') : Two B0 p c C' Got Sent pend B' t := by
  refine ⟨h.clean, fun i a ha hm => ?_, h.got, h.pends, h.gotSent, h.pendSent, h.hears0, h.hearsp, fun op hop => MemAct.low_mono hB (h.seen op hop)⟩
  obtain ⟨x, hx, hxa⟩ := touch_of ha
  have hlow : ∀ b, blockOf a.loc = some b → b < B := fun b hb => low_block (h.seen x (mem_of_getElem? hx)) hxa hb
  rcases h.touch i a ha hm with h1 | ⟨h1, b, hb, h2⟩ | ⟨h1, b, hb, h2⟩
  · exact .inl h1
  · exact .inr (.inl ⟨h1, b, hb, h2.imp id fun ⟨x, y⟩ => ⟨x, y.imp (hC b (hlow b hb)).2 id⟩⟩)
  · exact .inr (.inr ⟨h1, b, hb, h2.imp id fun ⟨x, y⟩ => ⟨x, fun z => y ((hC b (hlow b hb)).1 z)⟩⟩)

/-- Operations that touch nothing and turn nobody's hearing. -/
theorem Two.mute (h : Two B0 p c C Got Sent pend B t) (hn : ∀ op ∈ u, op.act.touch? = none) (hq0 : Deaf (t ++ u) 0 = Deaf t 0) (hqp : Deaf (t ++ u) p = Deaf t p) (hl : ∀ op ∈ u, op.act.low B) : Two B0 p c C Got Sent pend B (t ++ u) := by
  have old : ∀ i a, touchAt (t ++ u) i = some a → touchAt t i = some a := by
    intro i a ha
    obtain ⟨x, hx, hxa⟩ := touch_of ha
    rcases getElem?_append_cases hx with ⟨_, hx'⟩ | ⟨_, hxu⟩
    · rw [touchAt_of hx']; exact hxa
    · rw [hn x hxu] at hxa; cases hxa
  refine ⟨fun said => noRace_appendMute (h.clean said) hn, fun i a ha hm => ?_, fun i a b ha hb hg => (h.got i a b (old i a ha) hb hg).app u, fun x hx => (h.pends x hx).app fun op hop a b ha => (by rw [hn op hop] at ha; cases ha), h.gotSent, h.pendSent, hq0.trans h.hears0, hqp.trans h.hearsp, seen_app h.seen hl⟩
  exact (h.touch i a (old i a ha) hm).imp (fun x => ⟨x.1.app u, x.2.app u⟩) fun x => x.imp (fun y => ⟨y.1.app u, y.2⟩) fun y => ⟨y.1.app u, y.2⟩

/-- THE RECEIVER's OWN OPERATIONS. -/
theorem Two.cons (h : Two B0 p c C Got Sent pend B t) (hp : p ≠ 0) (hu : ∀ op ∈ u, op.g = 0) (hm : ∀ op ∈ u, ∀ a, op.act.touch? = some a → a.loc.isMemory = true → MayC B0 C Got a) (hd : Deaf (t ++ u) 0 = Deaf t 0) (hl : ∀ op ∈ u, op.act.low B)
    (hPC : ∀ x ∈ pend, ∀ b, x.2 b → B0 ≤ b ∧ ¬ C b ∧ ¬ Got b) : Two B0 p c C Got Sent pend B (t ++ u) := by
  refine ⟨fun said => noRace_append (h.clean said) hu fun i a ha op hop b hb hcf => ?_, fun i a ha hmm => ?_, fun i a b ha hb hg => ?_, fun x hx => (h.pends x hx).app fun op hop a b ha hb hr => ?_, h.gotSent, h.pendSent, hd.trans h.hears0, (Deaf_other t (Ne.symm hp) u hu).trans h.hearsp, seen_app h.seen hl⟩
  · obtain ⟨hloc, hmem, hwr, _⟩ := hcf
    have hmb : b.loc.isMemory = true := hloc ▸ hmem
    obtain ⟨n, hn, hmay⟩ := hm op hop b hb hmb
    have hn' : blockOf a.loc = some n := by rw [hloc]; exact hn
    rcases h.touch i a ha hmem with h1 | ⟨h1, _⟩ | ⟨h1, n', hn2, h2⟩
    · exact h1.1
    · exact h1
    · rw [hn'] at hn2
      obtain rfl := Option.some.inj hn2
      rcases hmay with ⟨hw, hlt⟩ | ⟨hge, hC | hG⟩
      · rcases h2 with ⟨hw2, _⟩ | ⟨hge, _⟩
        · rw [hw, hw2] at hwr; simp at hwr
        · omega
      · rcases h2 with ⟨_, hlt⟩ | ⟨_, hnc⟩
        · omega
        · exact absurd hC hnc
      · exact h.got i a n ha hn' hG
  · obtain ⟨x, hx, hxa⟩ := touch_of ha
    rcases getElem?_append_cases hx with ⟨_, hx'⟩ | ⟨_, hxu⟩
    · exact (h.touch i a (by rw [touchAt_of hx']; exact hxa) hmm).imp (fun x => ⟨x.1.app u, x.2.app u⟩) fun x => x.imp (fun y => ⟨y.1.app u, y.2⟩) fun y => ⟨y.1.app u, y.2⟩
    · have hk := knows_own hx
      rw [hu x hxu] at hk
      exact .inr (.inl ⟨hk, hm x hxu a hxa hmm⟩)
  · obtain ⟨x, hx, hxa⟩ := touch_of ha
    rcases getElem?_append_cases hx with ⟨_, hx'⟩ | ⟨_, hxu⟩
    · exact (h.got i a b (by rw [touchAt_of hx']; exact hxa) hb hg).app u
    · have hk := knows_own hx
      rwa [hu x hxu] at hk
  · have hmem : a.loc.isMemory = true := by
      revert hb
      cases a.loc <;> simp [blockOf, Loc.isMemory]
    obtain ⟨n, hn, hmay⟩ := hm op hop a ha hmem
    rw [hb] at hn
    obtain rfl := Option.some.inj hn
    obtain ⟨q1, q2, q3⟩ := hPC x hx b hr
    rcases hmay with ⟨_, hlt⟩ | ⟨_, hC | hG⟩
    · omega
    · exact q2 hC
    · exact q3 hG

/-- THE SENDER's OWN OPERATIONS. -/
theorem Two.prod (h : Two B0 p c C Got Sent pend B t) (hp : p ≠ 0) (hu : ∀ op ∈ u, op.g = p) (hm : ∀ op ∈ u, ∀ a, op.act.touch? = some a → a.loc.isMemory = true → MayP B0 C Sent a) (hd : Deaf (t ++ u) p = Deaf t p) (hl : ∀ op ∈ u, op.act.low B)
    (hS : ∀ b, Sent b → B0 ≤ b) : Two B0 p c C Got Sent pend B (t ++ u) := by
  have hmem : ∀ {a : Touch} {b : Nat}, blockOf a.loc = some b → a.loc.isMemory = true := by
    intro a b hb
    revert hb
    cases a.loc <;> simp [blockOf, Loc.isMemory]
  have hnot : ∀ op ∈ u, ∀ a b, op.act.touch? = some a → blockOf a.loc = some b → ¬ Sent b := by
    intro op hop a b ha hb hs
    obtain ⟨n, hn, hmay⟩ := hm op hop a ha (hmem hb)
    rw [hb] at hn
    obtain rfl := Option.some.inj hn
    rcases hmay with ⟨_, hlt⟩ | ⟨_, _, hns⟩
    · have := hS b hs; omega
    · exact hns hs
  refine ⟨fun said => noRace_append (h.clean said) hu fun i a ha op hop b hb hcf => ?_, fun i a ha hmm => ?_, fun i a b ha hb hg => ?_, fun x hx => (h.pends x hx).app fun op hop a b ha hb hr => hnot op hop a b ha hb (h.pendSent x hx b hr), h.gotSent, h.pendSent,
    (Deaf_other t hp u hu).trans h.hears0, hd.trans h.hearsp, seen_app h.seen hl⟩
  · obtain ⟨hloc, hmm, hwr, _⟩ := hcf
    obtain ⟨n, hn, hmay⟩ := hm op hop b hb (hloc ▸ hmm)
    have hn' : blockOf a.loc = some n := by rw [hloc]; exact hn
    rcases h.touch i a ha hmm with h1 | ⟨h1, n', hn2, h2⟩ | ⟨h1, _⟩
    · exact h1.2
    · exfalso
      rw [hn'] at hn2
      obtain rfl := Option.some.inj hn2
      rcases hmay with ⟨hw, hlt⟩ | ⟨hge, hnc, hns⟩
      · rcases h2 with ⟨hw2, _⟩ | ⟨hge, _⟩
        · rw [hw, hw2] at hwr; simp at hwr
        · omega
      · rcases h2 with ⟨_, hlt⟩ | ⟨_, hC | hG⟩
        · omega
        · exact hnc hC
        · exact hns (h.gotSent n hG)
    · exact h1
  · obtain ⟨x, hx, hxa⟩ := touch_of ha
    rcases getElem?_append_cases hx with ⟨_, hx'⟩ | ⟨_, hxu⟩
    · exact (h.touch i a (by rw [touchAt_of hx']; exact hxa) hmm).imp (fun x => ⟨x.1.app u, x.2.app u⟩) fun x => x.imp (fun y => ⟨y.1.app u, y.2⟩) fun y => ⟨y.1.app u, y.2⟩
    · have hk := knows_own hx
      rw [hu x hxu] at hk
      obtain ⟨n, hn, hmay⟩ := hm x hxu a hxa hmm
      exact .inr (.inr ⟨hk, n, hn, hmay.imp id fun y => ⟨y.1, y.2.1⟩⟩)
  · obtain ⟨x, hx, hxa⟩ := touch_of ha
    rcases getElem?_append_cases hx with ⟨_, hx'⟩ | ⟨_, hxu⟩
    · exact (h.got i a b (by rw [touchAt_of hx']; exact hxa) hb hg).app u
    · exact absurd (h.gotSent b hg) (hnot x hxu a b hxa hb)

/-- A SEND: its operations have been appended (they touch nothing); it is operation m. -/
theorem Two.send {k m : Nat} {rows : Nat → Prop} {op : MemOp} (h : Two B0 p c C Got Sent pend B t) (h' : Two B0 p c C Got Sent pend B (t ++ u)) (hn : ∀ op ∈ u, op.act.touch? = none) (hm : t.size ≤ m) (ho : (t ++ u)[m]? = some op) (hg : op.g = p) (ha : op.act = .send c k)
    (hh : (t ++ u).heard m) (hr : ∀ b, rows b → B0 ≤ b ∧ ¬ C b ∧ ¬ Sent b) : Two B0 p c C Got (fun b => Sent b ∨ rows b) (pend ++ [(k, rows)]) B (t ++ u) := by
  refine ⟨h'.clean, h'.touch, h'.got, fun x hx => ?_, fun b hb => .inl (h'.gotSent b hb), fun x hx b hb => ?_, h'.hears0, h'.hearsp, h'.seen⟩
  · rcases List.mem_append.1 hx with hx | hx
    · exact h'.pends x hx
    · simp only [List.mem_cons, List.not_mem_nil, or_false] at hx
      subst hx
      refine ⟨m, by rw [act?_of ho, ha], hh, fun i a b hta hb hrb => ?_⟩
      obtain ⟨x, hx, hxa⟩ := touch_of hta
      have hold : touchAt t i = some a := by
        rcases getElem?_append_cases hx with ⟨_, hx'⟩ | ⟨_, hxu⟩
        · rw [touchAt_of hx']; exact hxa
        · rw [hn x hxu] at hxa; cases hxa
      have hmem : a.loc.isMemory = true := by
        revert hb
        cases a.loc <;> simp [blockOf, Loc.isMemory]
      obtain ⟨r1, r2, r3⟩ := hr b hrb
      have hk : Knows t p i := by
        rcases h.touch i a hold hmem with h1 | ⟨_, n, hn', h2⟩ | ⟨h1, _⟩
        · exact h1.2
        · exfalso
          rw [hb] at hn'
          obtain rfl := Option.some.inj hn'
          rcases h2 with ⟨_, hlt⟩ | ⟨_, hC | hG⟩
          · omega
          · exact r2 hC
          · exact r3 (h.gotSent b hG)
        · exact h1
      exact .inr (hk.hb_new hm ho hg)
  · rcases List.mem_append.1 hx with hx | hx
    · exact .inl (h'.pendSent x hx b hb)
    · simp only [List.mem_cons, List.not_mem_nil, or_false] at hx
      subst hx
      exact .inr hb

/-- A RECEIVE of the eldest message: the receive is complete at operation j of goroutine 0's. -/
theorem Two.recv {k j : Nat} {rows : Nat → Prop} {op : MemOp} (h : Two B0 p c C Got Sent ((k, rows) :: pend) B t) (ho : t[j]? = some op) (hg : op.g = 0) (ha : op.act = .recvDone c k) (hh : t.heard j) : Two B0 p c C (fun b => Got b ∨ rows b) Sent pend B t := by
  have hk : ∀ i a b, touchAt t i = some a → blockOf a.loc = some b → rows b → Knows t 0 i := by
    obtain ⟨m, hm, hhm, hall⟩ := h.pends (k, rows) (by simp)
    intro i a b hta hb hr
    have e : HappensBefore t m j := .single (.inr ⟨.handOver hm (by rw [act?_of ho, ha]), hhm, hh⟩)
    exact ⟨j, op, ho, hg, .inr ((hall i a b hta hb hr).hb e)⟩
  refine ⟨h.clean, fun i a hta hm => ?_, fun i a b hta hb hgr => ?_, fun x hx => h.pends x (by simp [hx]), fun b hb => ?_, fun x hx => h.pendSent x (by simp [hx]), h.hears0, h.hearsp, h.seen⟩
  · exact (h.touch i a hta hm).imp id fun x => x.imp (fun ⟨y, b, hb, z⟩ => ⟨y, b, hb, z.imp id fun ⟨q, r⟩ => ⟨q, r.imp id .inl⟩⟩) id
  · rcases hgr with hgr | hgr
    · exact h.got i a b hta hb hgr
    · exact hk i a b hta hb hgr
  · rcases hb with hb | hb
    · exact h.gotSent b hb
    · exact h.pendSent (k, rows) (by simp) b hb

/-- The close is operation m of the sender's: all that the sender touched is before it. -/
def Shut (p c : Nat) (t : Trace) : Prop := ∃ m, t.act? m = some (.close c) ∧ t.heard m ∧ ∀ i a, touchAt t i = some a → a.loc.isMemory = true → Knows t 0 i ∨ Before t i m

theorem Two.shut {m : Nat} {op : MemOp} (h : Two B0 p c C Got Sent pend B t) (hm : t[m]? = some op) (hlast : m + 1 = t.size) (hg : op.g = p) (ha : op.act = .close c) (hh : t.heard m) : Shut p c t := by
  refine ⟨m, by rw [act?_of hm, ha], hh, fun i a hta hmem => ?_⟩
  have : Knows t 0 i ∨ Knows t p i := by
    rcases h.touch i a hta hmem with h1 | ⟨h1, _⟩ | ⟨h1, _⟩
    · exact .inl h1.1
    · exact .inl h1
    · exact .inr h1
  rcases this with h1 | ⟨q, z, hq, hz, hb⟩
  · exact .inl h1
  · refine .inr (hb.trans ?_)
    have hqm : q ≤ m := by have := lt_size_of_getElem? hq; omega
    rcases Nat.lt_or_ge q m with hlt | hge
    · exact .inr (hb_po hlt hq hm (hz.trans hg.symm))
    · exact .inl (by omega)

/-- Kept while goroutine 0 alone touches memory. -/
theorem Shut.app (h : Shut p c t) (hu : ∀ op ∈ u, op.g = 0 ∨ op.act.touch? = none) : Shut p c (t ++ u) := by
  obtain ⟨m, hm, hh, hall⟩ := h
  have hlt := lt_of_act? hm
  refine ⟨m, by rw [act?_old hlt]; exact hm, heard_app hlt hh, fun i a hta hmem => ?_⟩
  obtain ⟨x, hx, hxa⟩ := touch_of hta
  rcases getElem?_append_cases hx with ⟨_, hx'⟩ | ⟨_, hxu⟩
  · exact (hall i a (by rw [touchAt_of hx']; exact hxa) hmem).imp (·.app u) (·.app u)
  · have hk := knows_own hx
    rcases hu x hxu with h0 | h0
    · rw [h0] at hk; exact .inl hk
    · rw [h0] at hxa; cases hxa

/-- THE RECEIVE THAT FINDS THE CHANNEL CLOSED: goroutine 0 knows all. -/
theorem Two.toPast {j : Nat} {op : MemOp} (h : Two B0 p c C Got Sent pend B t) (hs : Shut p c t) (ho : t[j]? = some op) (hg : op.g = 0) (ha : op.act = .recvClosed c) (hh : t.heard j) : Past NoS B t := by
  have hk : ∀ i a, touchAt t i = some a → a.loc.isMemory = true → Knows t 0 i := by
    obtain ⟨m, hm, hhm, hall⟩ := hs
    intro i a hta hmem
    rcases hall i a hta hmem with h1 | h1
    · exact h1
    · have e : HappensBefore t m j := .single (.inr ⟨.closed hm (by rw [act?_of ho, ha]), hhm, hh⟩)
      exact ⟨j, op, ho, hg, .inr (h1.hb e)⟩
  refine ⟨h.clean, fun i a hta hm => .inl (hk i a hta hm), fun i g hgi hne ⟨x, hx, hm, _⟩ => ?_, h.hears0, h.seen⟩
  obtain ⟨q, z, hq, hz, hb⟩ := hk i x hx hm
  rcases hb with rfl | hb
  · rw [g?_of hq, hz] at hgi
    exact absurd (Option.some.inj hgi).symm hne
  · exact ⟨q, by rw [g?_of hq, hz], hb⟩

/-- THE GO STATEMENT, whose operations are the trace's last two: the child knows what goroutine 0 knew. -/
theorem Two.hire (h : Past NoS B t) (hp : p ≠ 0) (hc0 : Deaf t p = 0) (fh : FuncId) (ph : String) (fc : FuncId) :
    Two B0 p c C (fun _ => False) (fun _ => False) [] B (t ++ #[{ g := 0, fn := fh, pos := ph, act := .go p }, { g := p, fn := fc, pos := ph, act := .start }]) := by
  generalize hu : (#[{ g := 0, fn := fh, pos := ph, act := .go p }, { g := p, fn := fc, pos := ph, act := .start }] : Trace) = u
  have hn : ∀ op ∈ u, op.act.touch? = none := by
    intro op hop
    subst hu
    simp only [List.mem_toArray, List.mem_cons, List.not_mem_nil, or_false] at hop
    rcases hop with rfl | rfl <;> rfl
  have hq : ∀ g, ∀ op ∈ u, ∀ d, deafStep g d op = d := by
    intro g op hop d
    subst hu
    simp only [List.mem_toArray, List.mem_cons, List.not_mem_nil, or_false] at hop
    rcases hop with rfl | rfl <;> rfl
  have e0 : (t ++ u)[t.size]? = some { g := 0, fn := fh, pos := ph, act := .go p } := by subst hu; simp
  have e1 : (t ++ u)[t.size + 1]? = some { g := p, fn := fc, pos := ph, act := .start } := by subst hu; simp
  have edge : HappensBefore (t ++ u) t.size (t.size + 1) :=
    Relation.TransGen.single (.inr ⟨.spawn (act?_of e0) (act?_of e1) (g?_of e1), ⟨0, g?_of e0, by rw [deaf_old (Nat.le_refl _)]; exact h.hears⟩, ⟨p, g?_of e1, by rw [deaf_quiet (hq p) 1 (by subst hu; simp)]; exact hc0⟩⟩)
  refine ⟨fun said => noRace_appendMute (h.clean said) hn, fun i a ha hm => ?_, fun i a b _ _ hg => hg.elim, by simp, fun b hb => hb.elim, by simp, (Deaf_quiet (hq 0)).trans h.hears, (Deaf_quiet (hq p)).trans hc0, seen_app h.seen fun op hop => ?_⟩
  · obtain ⟨x, hx, hxa⟩ := touch_of ha
    rcases getElem?_append_cases hx with ⟨_, hx'⟩ | ⟨_, hxu⟩
    · have hk := (h.known i a (by rw [touchAt_of hx']; exact hxa) hm).resolve_right fun z => z.1
      exact .inl ⟨hk.app u, t.size + 1, _, e1, rfl, .inr ((hk.hb_new (Nat.le_refl _) e0 rfl).trans edge)⟩
    · rw [hn x hxu] at hxa; cases hxa
  · subst hu
    simp only [List.mem_toArray, List.mem_cons, List.not_mem_nil, or_false] at hop
    rcases hop with rfl | rfl <;> trivial
end
end Go.Proofs.Ytlkhknoaifbajaa

/- A sender and a receiver over a channel with a buffer, both of which make memory: THE SCRIPTS. What each relies on of the other's doing, and what it guarantees. 'Pay x v rows w': in the world w the value v stands for x; its blocks are 'rows'. -/
namespace Go.Proofs.Ytlkhknoaifbajaa
open Go Go.Conc
open Go.ConcN (sumTo upd sumTo_upd upd_ne upd_same)
set_option linter.unusedVariables false
set_option linter.unusedSimpArgs false

/-- Which rows are of the receiver's make: told by their cells, their type and their number. -/
abbrev Cls := Array Value → TypeId → Nat → Prop
def isC (T : Cls) (w : World) (b : Nat) : Prop := ∃ cs ty fz, w.heap[b]? = some (.cells cs ty fz) ∧ T cs ty b

structure Grow (T : Cls) (w w₁ : World) : Prop where
  tape : w₁.tape = w.tape
  os : w₁.os = w.os
  output : w₁.output = w.output
  size : w.heap.size ≤ w₁.heap.size
  cls : ∀ b, b < w.heap.size → (isC T w₁ b ↔ isC T w b)
theorem Grow.refl (T : Cls) (w : World) : Grow T w w := ⟨rfl, rfl, rfl, Nat.le_refl _, fun _ _ => Iff.rfl⟩
theorem Grow.trans {T : Cls} {a b d : World} (h : Grow T a b) (h' : Grow T b d) : Grow T a d :=
  ⟨h'.tape.trans h.tape, h'.os.trans h.os, h'.output.trans h.output, Nat.le_trans h.size h'.size, fun k hk => (h'.cls k (Nat.lt_of_lt_of_le hk h.size)).trans (h.cls k hk)⟩
theorem Grow.at (T : Cls) (w : World) (d : Nat) : Grow T w (w.at d) := ⟨rfl, rfl, rfl, Nat.le_refl _, fun _ _ => Iff.rfl⟩

section
variable (B0 c : Nat) (T : Cls)
/-- What the receiver relies on. -/
def RelyC (Got : Nat → Prop) (w w₁ : World) : Prop := Grow T w w₁ ∧ ∀ b, b < w.heap.size → b ≠ c → (b < B0 ∨ isC T w b ∨ Got b) → w₁.heap[b]? = w.heap[b]?
/-- What the sender relies on. -/
def RelyP (w w₁ : World) : Prop := Grow T w w₁ ∧ ∀ b, b < w.heap.size → b ≠ c → (b < B0 ∨ ¬ isC T w b) → w₁.heap[b]? = w.heap[b]?
def DC (Got : Nat → Prop) (w w' : World) (es : Array Event) : Prop :=
  Grow T w w' ∧ (∀ b, b < w.heap.size → (b < B0 ∨ ¬ isC T w b) → w'.heap[b]? = w.heap[b]?) ∧ ∀ e ∈ es, EvF w'.heap.size e ∧ ∀ x, (MemAct.ofEvent e).touch? = some x → x.loc.isMemory = true → MayC B0 (isC T w') Got x
def DP (Sent : Nat → Prop) (w w' : World) (es : Array Event) : Prop :=
  Grow T w w' ∧ (∀ b, b < w.heap.size → (b < B0 ∨ isC T w b ∨ Sent b) → w'.heap[b]? = w.heap[b]?) ∧ ∀ e ∈ es, EvF w'.heap.size e ∧ ∀ x, (MemAct.ofEvent e).touch? = some x → x.loc.isMemory = true → MayP B0 (isC T w') Sent x
end

section
variable {B0 c : Nat} {T : Cls} {Got Sent : Nat → Prop}
theorem RelyC.refl (w : World) : RelyC B0 c T Got w w := ⟨Grow.refl T w, fun _ _ _ _ => rfl⟩
theorem RelyC.trans {a b d : World} (h : RelyC B0 c T Got a b) (h' : RelyC B0 c T Got b d) : RelyC B0 c T Got a d :=
  ⟨h.1.trans h'.1, fun k hk hc hx => (h'.2 k (Nat.lt_of_lt_of_le hk h.1.size) hc (hx.imp id fun y => y.imp (h.1.cls k hk).2 id)).trans (h.2 k hk hc hx)⟩
theorem RelyP.refl (w : World) : RelyP B0 c T w w := ⟨Grow.refl T w, fun _ _ _ _ => rfl⟩
theorem RelyP.trans {a b d : World} (h : RelyP B0 c T a b) (h' : RelyP B0 c T b d) : RelyP B0 c T a d :=
  ⟨h.1.trans h'.1, fun k hk hc hx => (h'.2 k (Nat.lt_of_lt_of_le hk h.1.size) hc (hx.imp id fun y z => y ((h.1.cls k hk).1 z))).trans (h.2 k hk hc hx)⟩
theorem RelyC.at (w : World) (d : Nat) : RelyC B0 c T Got w (w.at d) := ⟨Grow.at T w d, fun _ _ _ _ => rfl⟩
theorem RelyP.at (w : World) (d : Nat) : RelyP B0 c T w (w.at d) := ⟨Grow.at T w d, fun _ _ _ _ => rfl⟩
theorem grow_chan (w : World) {c cap s r : Nat} {buf : Array Value} {cl tm : Bool} {o : Obj} (h : w.heap[c]? = some o) (ho : ∀ cs t fz, o ≠ .cells cs t fz) (T : Cls) : Grow T w (w.setChan c cap buf cl s r tm) := by
  refine ⟨rfl, rfl, rfl, by simp [World.setChan], fun b hb => ?_⟩
  by_cases e : c = b
  · subst e
    have hs : (w.setChan c cap buf cl s r tm).heap[c]? = some (.chan cap buf cl s r tm) := by
      simp [World.setChan, hb]
    constructor
    · rintro ⟨cs, ty, fz, h', _⟩; rw [hs] at h'; cases h'
    · rintro ⟨cs, ty, fz, h', _⟩; rw [h] at h'; exact absurd (Option.some.inj h') (ho _ _ _)
  · unfold isC
    have : (w.setChan c cap buf cl s r tm).heap[b]? = w.heap[b]? := by simp [World.setChan, Array.getElem?_setIfInBounds_ne e]
    rw [this]
theorem chan_other (w : World) {c cap s r b : Nat} {buf : Array Value} {cl tm : Bool} (e : b ≠ c) : (w.setChan c cap buf cl s r tm).heap[b]? = w.heap[b]? := by
  simp [World.setChan, Array.getElem?_setIfInBounds_ne (Ne.symm e)]
theorem chan_self (w : World) {c cap s r : Nat} {buf : Array Value} {cl tm : Bool} (h : c < w.heap.size) : (w.setChan c cap buf cl s r tm).heap[c]? = some (.chan cap buf cl s r tm) := by
  simp [World.setChan, h]
theorem RelyC.chan (w : World) {cap s r : Nat} {buf : Array Value} {cl tm : Bool} {o : Obj} (h : w.heap[c]? = some o) (ho : ∀ cs t fz, o ≠ .cells cs t fz) : RelyC B0 c T Got w (w.setChan c cap buf cl s r tm) :=
  ⟨grow_chan w h ho T, fun b _ hb _ => chan_other w hb⟩
theorem RelyP.chan (w : World) {cap s r : Nat} {buf : Array Value} {cl tm : Bool} {o : Obj} (h : w.heap[c]? = some o) (ho : ∀ cs t fz, o ≠ .cells cs t fz) : RelyP B0 c T w (w.setChan c cap buf cl s r tm) :=
  ⟨grow_chan w h ho T, fun b _ hb _ => chan_other w hb⟩
/-- The one's guarantee is what the other relies on. -/
theorem DC.rely {w w' : World} {es : Array Event} (h : DC B0 T Got w w' es) : RelyP B0 c T w w' := ⟨h.1, fun b hb _ hx => h.2.1 b hb hx⟩
theorem DP.rely {w w' : World} {es : Array Event} (h : DP B0 T Sent w w' es) (hg : ∀ b, Got b → Sent b) : RelyC B0 c T Got w w' := ⟨h.1, fun b hb _ hx => h.2.1 b hb (hx.imp id fun y => y.imp id (hg b))⟩
end

/-! ### Steps of one's own, at whatever depth -/
/-- How far it is to a stop: a tree over the worlds that may come. -/
inductive Rk where
  | zero
  | lim (f : World → Rk)
def Rk.lt (r' r : Rk) : Prop := ∃ f w, r = .lim f ∧ r' = f w
theorem Rk.induct {M : Rk → Prop} (h : ∀ r, (∀ r', Rk.lt r' r → M r') → M r) : ∀ r, M r := by
  intro r
  induction r with
  | zero => exact h _ fun r' ⟨f, w, e, _⟩ => by cases e
  | lim f ih => exact h _ fun r' ⟨f', w, e, e'⟩ => by cases e; subst e'; exact ih w

section
variable (P : Program) (main : Bool) (R : World → World → Prop) (D : World → World → Array Event → Prop) (Own : Nat → Prop) (Stop : Goroutine → World → Prop)
/-- 'g' comes to a stop by steps of its own, in whatever company. A step that makes a block counts only where the block's number is one's own. -/
def GoT : Rk → Goroutine → World → Prop
  | .zero, _, _ => False
  | .lim f, g, w => (∀ w₁, R w w₁ → Stop g w₁) ∨ (g.status = .running ∧ ∀ w₁, R w w₁ → ∃ g' w' es, stepG P main g w₁ = .go g' w' es ∧ D w₁ w' es ∧ GoT (f w₁) g' w') ∨
      (g.status = .running ∧ ∀ w₁, R w w₁ → ∃ g' w' es, stepG P main g w₁ = .go g' w' es ∧ w'.heap.size = w₁.heap.size + 1 ∧ (Own w₁.heap.size → D w₁ w' es ∧ GoT (f w₁) g' w'))
def GoI (g : Goroutine) (w : World) : Prop := ∃ r, GoT P main R D Own Stop r g w
end
section
variable {P : Program} {main : Bool} {R : World → World → Prop} {D : World → World → Array Event → Prop} {Own : Nat → Prop} {Stop : Goroutine → World → Prop} {g : Goroutine} {w w₁ : World}
theorem GoT.rely (trans : ∀ a b c, R a b → R b c → R a c) {r : Rk} (h : GoT P main R D Own Stop r g w) (hr : R w w₁) : GoT P main R D Own Stop r g w₁ := by
  cases r with
  | zero => exact h.elim
  | lim f =>
    rcases h with h | ⟨hs, h⟩ | ⟨hs, h⟩
    · exact .inl fun w₂ h₂ => h w₂ (trans _ _ _ hr h₂)
    · exact .inr (.inl ⟨hs, fun w₂ h₂ => h w₂ (trans _ _ _ hr h₂)⟩)
    · exact .inr (.inr ⟨hs, fun w₂ h₂ => h w₂ (trans _ _ _ hr h₂)⟩)
theorem GoT.running {r : Rk} (hst : ∀ g w, Stop g w → g.status = .running) (w₁ : World) (hr : R w w₁) (h : GoT P main R D Own Stop r g w) : g.status = .running := by
  cases r with
  | zero => exact h.elim
  | lim f =>
    rcases h with h | ⟨hs, h⟩ | ⟨hs, h⟩
    · exact hst _ _ (h w₁ hr)
    · exact hs
    · exact hs
theorem GoI.rely (trans : ∀ a b c, R a b → R b c → R a c) (h : GoI P main R D Own Stop g w) (hr : R w w₁) : GoI P main R D Own Stop g w₁ := by
  obtain ⟨r, h⟩ := h
  exact ⟨r, h.rely trans hr⟩
theorem GoI.stop (h : ∀ w₁, R w w₁ → Stop g w₁) : GoI P main R D Own Stop g w := ⟨.lim fun _ => .zero, .inl h⟩
open Classical in
theorem GoI.step (hs : g.status = .running) (h : ∀ w₁, R w w₁ → ∃ g' w' es, stepG P main g w₁ = .go g' w' es ∧ D w₁ w' es ∧ GoI P main R D Own Stop g' w') : GoI P main R D Own Stop g w := by
  have h' : ∀ w₁, ∃ r, R w w₁ → ∃ g' w' es, stepG P main g w₁ = .go g' w' es ∧ D w₁ w' es ∧ GoT P main R D Own Stop r g' w' := by
    intro w₁
    by_cases hr : R w w₁
    · obtain ⟨g', w', es, h1, h2, r, h3⟩ := h w₁ hr
      exact ⟨r, fun _ => ⟨g', w', es, h1, h2, h3⟩⟩
    · exact ⟨.zero, fun x => absurd x hr⟩
  exact ⟨.lim fun w₁ => (h' w₁).choose, .inr (.inl ⟨hs, fun w₁ hr => (h' w₁).choose_spec hr⟩)⟩
open Classical in
theorem GoI.make (hs : g.status = .running) (h : ∀ w₁, R w w₁ → ∃ g' w' es, stepG P main g w₁ = .go g' w' es ∧ w'.heap.size = w₁.heap.size + 1 ∧ (Own w₁.heap.size → D w₁ w' es ∧ GoI P main R D Own Stop g' w')) : GoI P main R D Own Stop g w := by
  have h' : ∀ w₁, ∃ r, R w w₁ → ∃ g' w' es, stepG P main g w₁ = .go g' w' es ∧ w'.heap.size = w₁.heap.size + 1 ∧ (Own w₁.heap.size → D w₁ w' es ∧ GoT P main R D Own Stop r g' w') := by
    intro w₁
    by_cases hr : R w w₁
    · obtain ⟨g', w', es, h1, h2, h3⟩ := h w₁ hr
      by_cases ho : Own w₁.heap.size
      · obtain ⟨h4, r, h5⟩ := h3 ho
        exact ⟨r, fun _ => ⟨g', w', es, h1, h2, fun _ => ⟨h4, h5⟩⟩⟩
      · exact ⟨.zero, fun _ => ⟨g', w', es, h1, h2, fun x => absurd x ho⟩⟩
    · exact ⟨.zero, fun x => absurd x hr⟩
  exact ⟨.lim fun w₁ => (h' w₁).choose, .inr (.inr ⟨hs, fun w₁ hr => (h' w₁).choose_spec hr⟩)⟩
/-- From the library's words. -/
theorem GoI.of_goes (refl : ∀ w, R w w) : ∀ {n : Nat} {g : Goroutine} {w : World}, Goes P main R D (fun g w => GoI P main R D Own Stop g w) n g w → GoI P main R D Own Stop g w
  | 0, g, w, h => h w (refl w)
  | n + 1, g, w, h => by
    rcases h with h | ⟨hs, h⟩
    · exact h w (refl w)
    · refine GoI.step hs fun w₁ h₁ => ?_
      obtain ⟨g', w', es, h1, h2, h3⟩ := goes_elim (h w₁ h₁)
      exact ⟨g', w', es, h1, h2, GoI.of_goes refl h3⟩
theorem GoI.mono {Stop' : Goroutine → World → Prop} (hst : ∀ g w, Stop g w → Stop' g w) (h : GoI P main R D Own Stop g w) : GoI P main R D Own Stop' g w := by
  obtain ⟨r, h⟩ := h
  induction r generalizing g w with
  | zero => exact h.elim
  | lim f ih =>
    rcases h with h | ⟨hs, h⟩ | ⟨hs, h⟩
    · exact GoI.stop fun w₁ h₁ => hst _ _ (h w₁ h₁)
    · refine GoI.step hs fun w₁ h₁ => ?_
      obtain ⟨g', w', es, h1, h2, h3⟩ := h w₁ h₁
      exact ⟨g', w', es, h1, h2, ih _ h3⟩
    · refine GoI.make hs fun w₁ h₁ => ?_
      obtain ⟨g', w', es, h1, h2, h3⟩ := h w₁ h₁
      exact ⟨g', w', es, h1, h2, fun x => ⟨(h3 x).1, ih _ (h3 x).2⟩⟩
end

/-! ### Whose a block is, foretold: the run is one -/
section
variable (P : Program) (m0 : Machine)
/-- Goroutine 0 makes the block n in the run from m0. -/
def Own0 (n : Nat) : Prop := ∃ k m m1 m', runN P k m0 = .next m ∧ step P m = .next m' ∧ n < m'.world.heap.size ∧ (∀ j, j ≤ k → ∀ mj, runN P j m0 = .next mj → mj.world.heap.size ≤ n) ∧ move P m = .goroutine m1 0
/-- A machine of the run, at its greatest heap so far. -/
def OnRun (m : Machine) : Prop := ∃ k, runN P k m0 = .next m ∧ ∀ j, j ≤ k → ∀ mj, runN P j m0 = .next mj → mj.world.heap.size ≤ m.world.heap.size
end
section
variable {P : Program} {m0 : Machine}
theorem onRun_start (m0 : Machine) : OnRun P m0 m0 := ⟨0, rfl, fun j hj mj h => by
  obtain rfl : j = 0 := by omega
  cases h; exact Nat.le_refl _⟩
theorem runN_succ {k : Nat} {m m' : Machine} : ∀ {m0 : Machine}, runN P k m0 = .next m → step P m = .next m' → runN P (k + 1) m0 = .next m' := by
  intro m0 h h'
  rw [show k + 1 = k + 1 from rfl, runN_add, h]
  simp [runN, h']
theorem OnRun.next {m m' : Machine} (h : OnRun P m0 m) (hs : step P m = .next m') (hle : m.world.heap.size ≤ m'.world.heap.size) : OnRun P m0 m' := by
  obtain ⟨k, hk, hm⟩ := h
  refine ⟨k + 1, runN_succ hk hs, fun j hj mj hmj => ?_⟩
  by_cases e : j = k + 1
  · subst e
    rw [runN_succ hk hs] at hmj
    cases hmj; exact Nat.le_refl _
  · exact Nat.le_trans (hm j (by omega) mj hmj) hle
theorem own0_iff {m m1 m' : Machine} {i : Nat} (h : OnRun P m0 m) (hs : step P m = .next m') (hn : m'.world.heap.size = m.world.heap.size + 1) (hmv : move P m = .goroutine m1 i) : Own0 P m0 m.world.heap.size ↔ i = 0 := by
  obtain ⟨k, hk, hm⟩ := h
  constructor
  · rintro ⟨k2, m2, m12, m2', h1, h2, h3, h4, h5⟩
    rcases Nat.lt_trichotomy k2 k with hlt | rfl | hlt
    · have := hm (k2 + 1) (by omega) m2' (runN_succ h1 h2)
      omega
    · rw [hk] at h1
      cases h1
      rw [hmv] at h5
      cases h5
      rfl
    · have := h4 (k + 1) (by omega) m' (runN_succ hk hs)
      omega
  · rintro rfl
    exact ⟨k, m, m1, m', hk, hs, by omega, fun j hj mj hmj => hm j hj mj hmj, hmv⟩
end
section
variable {P : Program} {gs : Array Goroutine} {w : World} {sl : Option (Nat × Nat)}
theorem move_pick {m : Machine} {rs : List Nat} (h0 : m.rest.watch = false) (h1 : m.rest.alone = none) (h2 : due m.rest.timers m.world.os.mono = []) (h3 : ahead m true = none) (hrs : runnable m.gs m.world.os.mono = rs) (hne : rs ≠ []) :
    ∃ i ∈ rs, ∃ d sl, move P m = .goroutine (m.at d sl) i := by
  unfold move
  rw [h1]
  simp only
  split
  · rename_i i n hs
    split
    · rename_i hc
      refine ⟨i, ?_, m.world.drawn, _, rfl⟩
      rw [← hrs]
      exact mem_runnable.2 hc
    · obtain ⟨j, hj, d, sl, h⟩ := ask_pick (P := P) (m := { m with rest := { m.rest with slice := none } }) h0 h2 h3 hrs hne
      exact ⟨j, hj, d, sl, h⟩
  · exact ask_pick h0 h2 h3 hrs hne
theorem crowd_move (ha : ∀ g ∈ gs, awake g) (some1 : ∃ (i : Nat) (g : Goroutine), gs[i]? = some g ∧ g.status = .running) :
    ∃ (i : Nat) (g : Goroutine) (d : Nat) (sl' : Option (Nat × Nat)), gs[i]? = some g ∧ g.status = .running ∧ stepT P (crowd gs w sl) = runT P (crowd gs (w.at d) sl') i ∧ move P (crowd gs w sl) = .goroutine (crowd gs (w.at d) sl') i := by
  have hne : runnable (crowd gs w sl).gs (crowd gs w sl).world.os.mono ≠ [] := by
    intro h
    obtain ⟨i, g, hi, hg⟩ := some1
    have : i ∈ runnable (crowd gs w sl).gs (crowd gs w sl).world.os.mono := mem_runnable.2 (by simp [crowd, hi, Goroutine.canRun, hg])
    rw [h] at this; cases this
  obtain ⟨i, hi, d, sl', hs⟩ := move_pick (P := P) (m := crowd gs w sl) rfl rfl (by simp [due, crowd]) (ahead_crowd ha) rfl hne
  have hc := mem_runnable.1 hi
  simp only [crowd] at hc
  cases hg : gs[i]? with
  | none => simp [hg] at hc
  | some g =>
    simp only [hg, Option.any_some] at hc
    exact ⟨i, g, d, sl', hg, (canRun_iff (ha g (Array.mem_of_getElem? hg)) _).1 hc, by simp [stepT, hs, crowd_at], by rw [hs, crowd_at]⟩
theorem step_of_stepT {P : Program} {m m' : Machine} {ops : Array MemOp} (h : stepT P m = (.next m', ops)) : step P m = .next m' := by
  show (stepT P m).1 = _
  rw [h]
end

section
variable (P : Program) (B0 c : Nat) (T : Cls) (O : Nat → Prop) {α : Type} (Pay : α → Value → (Nat → Prop) → World → Prop)

def AtSendP (x : α) (Sent : Nat → Prop) (Next : (Nat → Prop) → Goroutine → World → Prop) (g : Goroutine) (w : World) : Prop :=
  g.status = .running ∧ ∃ v z' rows, (∀ d, stepG P false g (w.at d) = .comm (core g) #[scase c v z'] true .send (w.at d) #[]) ∧ Pay x v rows w ∧
    (∀ b, rows b → B0 ≤ b ∧ b < w.heap.size ∧ ¬ isC T w b ∧ ¬ Sent b) ∧ ∀ w₂, RelyP B0 c T w w₂ → Next (fun b => Sent b ∨ rows b) (Go.Conc.served (core g) undef) w₂

def AtCloseP (g : Goroutine) (w : World) : Prop :=
  g.status = .running ∧ mayWake P g = true ∧ ∃ g₂ n, (∀ d cap buf s r, w.heap[c]? = some (.chan cap buf false s r false) → stepG P false g (w.at d) = .go g₂ ((w.at d).setChan c cap buf true s r false) (closeEvents c)) ∧ QuitsIn P n g₂

/-- THE SENDER's SCRIPT. Whatever goroutine 0 makes bears a number of O. -/
def Sends : List α → (Nat → Prop) → Goroutine → World → Prop
  | [], Sent, g, w => GoI P false (RelyP B0 c T) (DP B0 T Sent) (fun n => ¬ O n) (AtCloseP P c) g w
  | x :: xs, Sent, g, w => GoI P false (RelyP B0 c T) (DP B0 T Sent) (fun n => ¬ O n) (AtSendP P B0 c T Pay x Sent (Sends xs)) g w
def StopP : List α → (Nat → Prop) → Goroutine → World → Prop
  | [], _ => AtCloseP P c
  | x :: xs, Sent => AtSendP P B0 c T Pay x Sent (Sends P B0 c T O Pay xs)
theorem sends_iff (xs : List α) (Sent : Nat → Prop) (g : Goroutine) (w : World) : Sends P B0 c T O Pay xs Sent g w ↔ GoI P false (RelyP B0 c T) (DP B0 T Sent) (fun n => ¬ O n) (StopP P B0 c T O Pay xs Sent) g w := by
  cases xs <;> exact Iff.rfl

def AtRecvC (z : Value) (Got : Nat → Prop) (Next : Goroutine → World → Prop) (g : Goroutine) (w : World) : Prop :=
  g.status = .running ∧ (∀ d, stepG P true g (w.at d) = .comm (core g) #[rcase c z] true (.recv true) (w.at d) #[]) ∧ ∀ w₂, RelyC B0 c T Got w w₂ → Next (core g) w₂

/-- THE RECEIVER's SCRIPT. -/
def Recvs (z : Value) (Fin : Goroutine → World → Prop) : List α → (Nat → Prop) → Goroutine → World → Prop
  | [], Got, g, w => GoI P true (RelyC B0 c T Got) (DC B0 T Got) O (AtRecvC P B0 c T z Got fun g₂ w₂ => Fin (Go.Conc.served g₂ (.tuple #[z, .bool false])) w₂) g w
  | x :: xs, Got, g, w => GoI P true (RelyC B0 c T Got) (DC B0 T Got) O (AtRecvC P B0 c T z Got fun g₂ w₂ => ∀ v rows, Pay x v rows w₂ → (∀ b, rows b → B0 ≤ b ∧ b < w₂.heap.size ∧ ¬ isC T w₂ b ∧ ¬ Got b) →
      Recvs z Fin xs (fun b => Got b ∨ rows b) (Go.Conc.served g₂ (.tuple #[v, .bool true])) w₂) g w
def StopC (z : Value) (Fin : Goroutine → World → Prop) : List α → (Nat → Prop) → Goroutine → World → Prop
  | [], Got => AtRecvC P B0 c T z Got fun g₂ w₂ => Fin (Go.Conc.served g₂ (.tuple #[z, .bool false])) w₂
  | x :: xs, Got => AtRecvC P B0 c T z Got fun g₂ w₂ => ∀ v rows, Pay x v rows w₂ → (∀ b, rows b → B0 ≤ b ∧ b < w₂.heap.size ∧ ¬ isC T w₂ b ∧ ¬ Got b) → Recvs P B0 c T O Pay z Fin xs (fun b => Got b ∨ rows b) (Go.Conc.served g₂ (.tuple #[v, .bool true])) w₂
theorem recvs_iff (z : Value) (Fin : Goroutine → World → Prop) (xs : List α) (Got : Nat → Prop) (g : Goroutine) (w : World) :
    Recvs P B0 c T O Pay z Fin xs Got g w ↔ GoI P true (RelyC B0 c T Got) (DC B0 T Got) O (StopC P B0 c T O Pay z Fin xs Got) g w := by
  cases xs <;> exact Iff.rfl
end

section
variable {P : Program} {B0 c : Nat} {T : Cls} {O : Nat → Prop} {α : Type} {Pay : α → Value → (Nat → Prop) → World → Prop} {z : Value} {Fin : Goroutine → World → Prop}
theorem StopC.running {xs : List α} {Got : Nat → Prop} {g : Goroutine} {w : World} (h : StopC P B0 c T O Pay z Fin xs Got g w) : g.status = .running := by cases xs <;> exact h.1
theorem StopC.comm {xs : List α} {Got : Nat → Prop} {g : Goroutine} {w : World} (h : StopC P B0 c T O Pay z Fin xs Got g w) : ∀ d, stepG P true g (w.at d) = .comm (core g) #[rcase c z] true (.recv true) (w.at d) #[] := by cases xs <;> exact h.2.1
theorem StopP.running {xs : List α} {Sent : Nat → Prop} {g : Goroutine} {w : World} (h : StopP P B0 c T O Pay xs Sent g w) : g.status = .running := by cases xs <;> exact h.1
/-- Whoever has been let try again stands where it stood. -/
theorem StopC.again {xs : List α} {Got : Nat → Prop} {g : Goroutine} {w : World} (h : StopC P B0 c T O Pay z Fin xs Got g w) : StopC P B0 c T O Pay z Fin xs Got { parked (core g) #[rcase c z] (.recv true) with status := .running } w := by
  have e : ∀ d, stepG P true { parked (core g) #[rcase c z] (.recv true) with status := .running } (w.at d) = stepG P true g (w.at d) := fun d => stepG_same rfl rfl rfl _
  cases xs <;> exact ⟨rfl, fun d => by rw [e]; exact h.2.1 d, h.2.2⟩
theorem StopC.cons {x : α} {xs : List α} {Got : Nat → Prop} {g : Goroutine} {w : World} (h : StopC P B0 c T O Pay z Fin (x :: xs) Got g w) : ∀ w₂, RelyC B0 c T Got w w₂ → ∀ v rows, Pay x v rows w₂ → (∀ b, rows b → B0 ≤ b ∧ b < w₂.heap.size ∧ ¬ isC T w₂ b ∧ ¬ Got b) →
    Recvs P B0 c T O Pay z Fin xs (fun b => Got b ∨ rows b) (Go.Conc.served (core g) (.tuple #[v, .bool true])) w₂ := h.2.2
theorem StopC.nil {Got : Nat → Prop} {g : Goroutine} {w : World} (h : StopC (α := α) P B0 c T O Pay z Fin [] Got g w) : ∀ w₂, RelyC B0 c T Got w w₂ → Fin (Go.Conc.served (core g) (.tuple #[z, .bool false])) w₂ := h.2.2

/-- A RECEIVE FROM A FULL BUFFER AT WHICH ONE SENDER IS PARKED: its value goes into the room. -/
theorem crowd_recv_moves {gs : Array Goroutine} {w w₁ : World} {sl : Option (Nat × Nat)} {i j : Nat} {g g₂ gj : Goroutine} {es : Array Event} {shape shj : CommShape} {cap s r : Nat} {buf : Array Value} {closed tm blocking : Bool} {v zj : Value}
    (hi : gs[i]? = some g) (h : stepG P (i == 0) g w = .comm g₂ #[rcase c z] blocking shape w₁ es) (hc : w₁.heap[c]? = some (.chan cap buf closed s r tm)) (hsome : 0 < buf.size)
    (hij : j ≠ i) (hj : gs[j]? = some (parked gj #[scase c v zj] shj)) (hp : partners (gs.setIfInBounds i ph) c true = [(j, 0)]) :
    runT P (crowd gs w sl) i = (.next (crowd ((gs.setIfInBounds j (gj.finishComm P #[scase c v zj] shj 0 undef false)).setIfInBounds i (g₂.finishComm P #[rcase c z] shape 0 (buf.getD 0 undef) true)) (w₁.setChan c cap ((buf.extract 1 buf.size).push v) closed (s + 1) (r + 1) tm) sl),
      MemOp.ofEvents i g.frame.fn g.frame.place es ++ #[{ g := i, fn := g₂.frame.fn, pos := g₂.frame.place, act := .recv c r cap }, { g := i, fn := g₂.frame.fn, pos := g₂.frame.place, act := .recvDone c r },
        { g := j, fn := gj.frame.fn, pos := gj.frame.place, act := .send c s }, { g := j, fn := gj.frame.fn, pos := gj.frame.place, act := .sendDone c s }]) := by
  rw [runT_crowd_comm hi h]
  have hj' := stand_get (i := i) hij hj
  have hfp := finishPartner_at P (gs.setIfInBounds i ph) hj' (cs := #[scase c v zj]) (sh := shj) rfl 0 undef
  have hgd : (gs.setIfInBounds i ph).getD j default = parked gj #[scase c v zj] shj := by rw [Array.getD_eq_getD_getElem?, hj']; rfl
  have hov : offeredValue (gs.setIfInBounds i ph) j 0 = v := by simp [offeredValue, hj', parked, scase]
  simp [communicate, ways, rcase, hc, hp, hsome, choose, Sem.run, Question.forced, bind, Sem.bind, pure, World.setChan, crowd, hfp, hgd, hov, set_stand2, finishComm_parked, scase, parked]
  rfl
end
end Go.Proofs.Ytlkhknoaifbajaa

/- A sender and a receiver over a channel with a buffer, both of which make memory: THE MACHINE, ON WHATEVER TAPE. -/
namespace Go.Proofs.Ytlkhknoaifbajaa
open Go Go.Conc
open Go.ConcN (sumTo upd sumTo_upd upd_ne upd_same)
set_option linter.unusedVariables false
set_option linter.unusedSimpArgs false

structure Ent (α : Type) where
  x : α
  v : Value
  rows : Nat → Prop

def pendOf {α : Type} : Nat → List (Ent α) → List (Nat × (Nat → Prop))
  | _, [] => []
  | r, e :: l => (r, e.rows) :: pendOf (r + 1) l
theorem pendOf_append {α : Type} (e : Ent α) : ∀ (l : List (Ent α)) (r : Nat), pendOf r (l ++ [e]) = pendOf r l ++ [(r + l.length, e.rows)]
  | [], r => rfl
  | x :: l, r => by
    simp only [List.cons_append, pendOf, pendOf_append e l (r + 1), List.length_cons]
    rw [show r + 1 + l.length = r + (l.length + 1) by omega]
theorem mem_pendOf {α : Type} : ∀ {l : List (Ent α)} {r : Nat} {y : Nat × (Nat → Prop)}, y ∈ pendOf r l → ∃ e ∈ l, y.2 = e.rows
  | [], _, _, h => by simp [pendOf] at h
  | e :: l, r, y, h => by
    simp only [pendOf, List.mem_cons] at h
    rcases h with rfl | h
    · exact ⟨e, by simp, rfl⟩
    · obtain ⟨e', he, hy⟩ := mem_pendOf h
      exact ⟨e', by simp [he], hy⟩

/-- The goroutines. -/
structure Pool (P : Program) (p : Nat) (gs : Array Goroutine) (a b : Goroutine) (t : Trace) (q : Nat → Nat) : Prop where
  zero : gs[0]? = some a
  one : gs[p]? = some b
  others : ∀ i g, 0 < i → i ≠ p → gs[i]? = some g → QuitsD P (q i) (Deaf t i) g
  above : ∀ j, gs.size ≤ j → Deaf t j = 0

section
variable {P : Program} {p : Nat} {gs gs' : Array Goroutine} {a b a' b' : Goroutine} {t t' : Trace} {q : Nat → Nat}
theorem Pool.lt (h : Pool P p gs a b t q) : p < gs.size := (Array.getElem?_eq_some_iff.1 h.one).1
theorem Pool.next (h : Pool P p gs a b t q) (hs : gs'.size = gs.size) (h0 : gs'[0]? = some a') (h1 : gs'[p]? = some b') (ho : ∀ j, j ≠ 0 → j ≠ p → gs'[j]? = gs[j]?) (hd : ∀ j, j ≠ 0 → j ≠ p → Deaf t' j = Deaf t j) : Pool P p gs' a' b' t' q := by
  refine ⟨h0, h1, fun i g hi hip hg => ?_, fun j hj => ?_⟩
  · rw [ho i (by omega) hip] at hg
    rw [hd i (by omega) hip]
    exact h.others i g hi hip hg
  · have hz : 0 < gs.size := (Array.getElem?_eq_some_iff.1 h.zero).1
    have := h.lt
    rw [hd j (by omega) (by omega)]
    exact h.above j (by omega)

theorem get_set (gs : Array Goroutine) (i j : Nat) (x : Goroutine) (hi : i < gs.size) : (gs.setIfInBounds i x)[j]? = if i = j then some x else gs[j]? := by
  by_cases e : i = j
  · subst e; simp [hi]
  · rw [Array.getElem?_setIfInBounds_ne e, if_neg e]
theorem get_woken (gs : Array Goroutine) {g g' : Goroutine} {w' : World} {i : Nat} (hi : i < gs.size) (hw : ∀ j x, j ≠ i → gs[j]? = some x → woken P g g' w' x = x) (j : Nat) :
    ((gs.map (woken P g g' w')).setIfInBounds i g')[j]? = if i = j then some g' else gs[j]? := by
  by_cases e : i = j
  · subst e; simp [hi]
  · rw [Array.getElem?_setIfInBounds_ne e, if_neg e, Array.getElem?_map]
    cases hx : gs[j]? with
    | none => rfl
    | some x => simp [hw j x (Ne.symm e) hx]

/-- Whoever else might be parked at the channel. -/
theorem Pool.parts0 (h : Pool P p gs a b t q) (hp : p ≠ 0) {c : Nat} {send : Bool} (hb : offersAt b c send = []) : partners (gs.setIfInBounds 0 ph) c send = [] := by
  refine partners_nil fun j g hj => ?_
  rcases getElem?_stand gs 0 j g hj with ⟨_, rfl⟩ | ⟨hj0, hj⟩
  · rfl
  · by_cases hjp : j = p
    · subst hjp
      rw [h.one] at hj
      obtain rfl := Option.some.inj hj
      exact hb
    · exact offersAt_of_not_blocked (by rcases (h.others j g (by omega) hjp hj).status with e | e <;> rw [e] <;> simp) _ _
theorem Pool.parts0' (h : Pool P p gs a b t q) (hp : p ≠ 0) {c : Nat} {send : Bool} (hb : offersAt b c send = [0]) : partners (gs.setIfInBounds 0 ph) c send = [(p, 0)] := by
  rw [partners_one (j := p) (g := b) (stand_get hp h.one) fun j g hjp hj => ?_, hb]
  · rfl
  · rcases getElem?_stand gs 0 j g hj with ⟨_, rfl⟩ | ⟨hj0, hj⟩
    · rfl
    · exact offersAt_of_not_blocked (by rcases (h.others j g (by omega) hjp hj).status with e | e <;> rw [e] <;> simp) _ _
theorem Pool.partsp (h : Pool P p gs a b t q) (hp : p ≠ 0) {c : Nat} {send : Bool} (ha : offersAt a c send = []) : partners (gs.setIfInBounds p ph) c send = [] := by
  refine partners_nil fun j g hj => ?_
  rcases getElem?_stand gs p j g hj with ⟨_, rfl⟩ | ⟨hjp, hj⟩
  · rfl
  · by_cases hj0 : j = 0
    · subst hj0
      rw [h.zero] at hj
      obtain rfl := Option.some.inj hj
      exact ha
    · exact offersAt_of_not_blocked (by rcases (h.others j g (by omega) hjp hj).status with e | e <;> rw [e] <;> simp) _ _
theorem Pool.partsp' (h : Pool P p gs a b t q) (hp : p ≠ 0) {c : Nat} {send : Bool} (ha : offersAt a c send = [0]) : partners (gs.setIfInBounds p ph) c send = [(0, 0)] := by
  rw [partners_one (j := 0) (g := a) (stand_get (Ne.symm hp) h.zero) fun j g hj0 hj => ?_, ha]
  · rfl
  · rcases getElem?_stand gs p j g hj with ⟨_, rfl⟩ | ⟨hjp, hj⟩
    · rfl
    · exact offersAt_of_not_blocked (by rcases (h.others j g (by omega) hjp hj).status with e | e <;> rw [e] <;> simp) _ _
theorem Pool.awake (h : Pool P p gs a b t q) (ha : Go.Conc.awake a) (hb : Go.Conc.awake b) : ∀ g ∈ gs, Go.Conc.awake g := by
  intro g hg
  obtain ⟨i, hi, rfl⟩ := Array.mem_iff_getElem.1 hg
  by_cases h0 : i = 0
  · subst h0
    have : gs[0] = a := by simpa [Array.getElem?_eq_getElem hi] using h.zero
    rw [this]; exact ha
  · by_cases h1 : i = p
    · subst h1
      have : gs[i] = b := by simpa [Array.getElem?_eq_getElem hi] using h.one
      rw [this]; exact hb
    · exact awake_of ((h.others i _ (by omega) h1 (Array.getElem?_eq_getElem hi)).status.elim .inl fun x => .inr (.inr x))
end

section
variable (P : Program) (B0 c p : Nat) (T : Cls) {α : Type} (Pay : α → Value → (Nat → Prop) → World → Prop)
/-- What lies in the channel, in memory and in the trace. -/
structure Com (pd : List (Ent α)) (Got Sent : Nat → Prop) (cap r : Nat) (closed : Bool) (w : World) (t : Trace) : Prop where
  chan : w.heap[c]? = some (.chan cap (pd.map (·.v)).toArray closed (r + pd.length) r false)
  pdok : ∀ e ∈ pd, Pay e.x e.v e.rows w ∧ ∀ b, e.rows b → B0 ≤ b ∧ b < w.heap.size ∧ ¬ isC T w b ∧ Sent b ∧ ¬ Got b
  apart : pd.Pairwise fun e e' => ∀ b, e.rows b → ¬ e'.rows b
  sent : ∀ b, Sent b → B0 ≤ b ∧ b < w.heap.size ∧ ¬ isC T w b
  trace : Two B0 p c (isC T w) Got Sent (pendOf r pd) w.heap.size t
end

section
variable {P : Program} {B0 c p : Nat} {T : Cls} {α : Type} {Pay : α → Value → (Nat → Prop) → World → Prop} {z : Value} {Fin : Goroutine → World → Prop}
variable {pd : List (Ent α)} {Got Sent : Nat → Prop} {cap r : Nat} {closed : Bool} {w w' : World} {t u : Trace}

theorem chan_lt (h : Com B0 c p T Pay pd Got Sent cap r closed w t) : c < w.heap.size := heap_low h.chan

/-- The world turns; what is held of it stays. -/
theorem Com.turn (hPay : ∀ x v rows w w', Pay x v rows w → (∀ b, rows b → w'.heap[b]? = w.heap[b]?) → Pay x v rows w') (h : Com B0 c p T Pay pd Got Sent cap r closed w t) (hg : Grow T w w') (hch : w'.heap[c]? = w.heap[c]?) (hs : ∀ b, Sent b → w'.heap[b]? = w.heap[b]?) :
    Com B0 c p T Pay pd Got Sent cap r closed w' t := by
  refine ⟨hch.trans h.chan, fun e he => ?_, h.apart, fun b hb => ?_, h.trace.recast (fun b hb => hg.cls b hb) hg.size⟩
  · obtain ⟨h1, h2⟩ := h.pdok e he
    refine ⟨hPay _ _ _ _ _ h1 fun b hb => hs b (h2 b hb).2.2.2.1, fun b hb => ?_⟩
    obtain ⟨x1, x2, x3, x4, x5⟩ := h2 b hb
    exact ⟨x1, Nat.lt_of_lt_of_le x2 hg.size, fun y => x3 ((hg.cls b x2).1 y), x4, x5⟩
  · obtain ⟨x1, x2, x3⟩ := h.sent b hb
    exact ⟨x1, Nat.lt_of_lt_of_le x2 hg.size, fun y => x3 ((hg.cls b x2).1 y)⟩

theorem ofEv {g : Nat} {fn : FuncId} {pos : String} {es : Array Event} {B : Nat} (he : ∀ e ∈ es, EvF B e) : (∀ op ∈ MemOp.ofEvents g fn pos es, op.g = g) ∧ (∀ t, Deaf (t ++ MemOp.ofEvents g fn pos es) g = Deaf t g) ∧ ∀ op ∈ MemOp.ofEvents g fn pos es, op.act.low B := by
  refine ⟨fun op hop => by obtain ⟨e, _, rfl⟩ := Go.Conc.mem_ofEvents hop; rfl, fun t => ?_, fun op hop => by obtain ⟨e, hh, rfl⟩ := Go.Conc.mem_ofEvents hop; exact (he e hh).2.2⟩
  rw [Deaf_own]
  exact deafBehind_still (fun e hh => ⟨(he e hh).1, (he e hh).2.1⟩) _

/-- A step of the receiver's own. -/
theorem Com.stepC (hPay : ∀ x v rows w w', Pay x v rows w → (∀ b, rows b → w'.heap[b]? = w.heap[b]?) → Pay x v rows w') (hp : p ≠ 0) (hcB : c < B0) (h : Com B0 c p T Pay pd Got Sent cap r closed w t) {es : Array Event} (hd : DC B0 T Got w w' es) (fn : FuncId) (pos : String) :
    Com B0 c p T Pay pd Got Sent cap r closed w' (t ++ MemOp.ofEvents 0 fn pos es) := by
  have h1 := h.turn hPay hd.1 (hd.2.1 c (chan_lt h) (.inl hcB)) fun b hb => hd.2.1 b (h.sent b hb).2.1 (.inr (h.sent b hb).2.2)
  obtain ⟨e1, e2, e3⟩ := ofEv (g := 0) (fn := fn) (pos := pos) fun e he => (hd.2.2 e he).1
  refine ⟨h1.chan, h1.pdok, h1.apart, h1.sent, h1.trace.cons hp e1 (fun op hop a ha hm => ?_) (e2 t) e3 fun x hx b hb => ?_⟩
  · obtain ⟨e, he, rfl⟩ := Go.Conc.mem_ofEvents hop
    exact (hd.2.2 e he).2 a ha hm
  · obtain ⟨e, he, hr⟩ := mem_pendOf hx
    rw [hr] at hb
    obtain ⟨x1, x2, x3, x4, x5⟩ := (h1.pdok e he).2 b hb
    exact ⟨x1, x3, x5⟩
/-- A step of the sender's own. -/
theorem Com.stepP (hPay : ∀ x v rows w w', Pay x v rows w → (∀ b, rows b → w'.heap[b]? = w.heap[b]?) → Pay x v rows w') (hp : p ≠ 0) (hcB : c < B0) (h : Com B0 c p T Pay pd Got Sent cap r closed w t) {es : Array Event} (hd : DP B0 T Sent w w' es) (fn : FuncId) (pos : String) :
    Com B0 c p T Pay pd Got Sent cap r closed w' (t ++ MemOp.ofEvents p fn pos es) := by
  have h1 := h.turn hPay hd.1 (hd.2.1 c (chan_lt h) (.inl hcB)) fun b hb => hd.2.1 b (h.sent b hb).2.1 (.inr (.inr hb))
  obtain ⟨e1, e2, e3⟩ := ofEv (g := p) (fn := fn) (pos := pos) fun e he => (hd.2.2 e he).1
  refine ⟨h1.chan, h1.pdok, h1.apart, h1.sent, h1.trace.prod hp e1 (fun op hop a ha hm => ?_) (e2 t) e3 fun b hb => (h1.sent b hb).1⟩
  obtain ⟨e, he, rfl⟩ := Go.Conc.mem_ofEvents hop
  exact (hd.2.2 e he).2 a ha hm

/-- Operations on the channel: quiet. -/
def Quiet (u : Trace) (B : Nat) : Prop := (∀ op ∈ u, op.act.touch? = none) ∧ (∀ op ∈ u, op.act.low B) ∧ ∀ g, ∀ op ∈ u, ∀ d, deafStep g d op = d
theorem Quiet.deaf {B : Nat} (h : Quiet u B) (g : Nat) : Deaf (t ++ u) g = Deaf t g := Deaf_quiet (h.2.2 g)
theorem Quiet.heard {B m : Nat} {op : MemOp} (h : Quiet u B) (hm : t.size ≤ m) (ho : (t ++ u)[m]? = some op) (hd : Deaf t op.g = 0) : (t ++ u).heard m := by
  refine ⟨op.g, g?_of ho, ?_⟩
  have hlt := lt_size_of_getElem? ho
  obtain ⟨k, rfl⟩ : ∃ k, m = t.size + k := ⟨m - t.size, by omega⟩
  rw [deaf_quiet (h.2.2 op.g) k (by simp at hlt; omega)]
  exact hd
theorem quiet_of {B : Nat} (h : ∀ op ∈ u, op.act.touch? = none ∧ op.act.low B ∧ ∀ g d, deafStep g d op = d) : Quiet u B :=
  ⟨fun op ho => (h op ho).1, fun op ho => (h op ho).2.1, fun g op ho d => (h op ho).2.2 g d⟩
end
end Go.Proofs.Ytlkhknoaifbajaa

/- A sender and a receiver over a channel with a buffer: a message more, a message less; where they stand. -/
namespace Go.Proofs.Ytlkhknoaifbajaa
open Go Go.Conc
open Go.ConcN (sumTo upd sumTo_upd upd_ne upd_same)
set_option linter.unusedVariables false
set_option linter.unusedSimpArgs false

section
variable {P : Program} {B0 c p : Nat} {T : Cls} {O : Nat → Prop} {α : Type} {Pay : α → Value → (Nat → Prop) → World → Prop} {z : Value} {Fin : Goroutine → World → Prop}
variable {pd : List (Ent α)} {Got Sent : Nat → Prop} {cap r : Nat} {closed : Bool} {w w' : World} {t u : Trace}

abbrev PayOk (Pay : α → Value → (Nat → Prop) → World → Prop) : Prop := ∀ x v rows w w', Pay x v rows w → (∀ b, rows b → w'.heap[b]? = w.heap[b]?) → Pay x v rows w'

theorem chan_ne {cap : Nat} {buf : Array Value} {cl tm : Bool} {s r : Nat} : ∀ cs t fz, Obj.chan cap buf cl s r tm ≠ .cells cs t fz := fun _ _ _ e => by cases e

/-- A message more. -/
theorem Com.send (hPay : PayOk Pay) (hcB : c < B0) (h : Com B0 c p T Pay pd Got Sent cap r closed w t) {x : α} {v : Value} {rows : Nat → Prop} (hx : Pay x v rows w) (hr : ∀ b, rows b → B0 ≤ b ∧ b < w.heap.size ∧ ¬ isC T w b ∧ ¬ Sent b)
    (hq : Quiet u w.heap.size) {m : Nat} {op : MemOp} (hm : t.size ≤ m) (ho : (t ++ u)[m]? = some op) (hg : op.g = p) (ha : op.act = .send c (r + pd.length)) :
    Com B0 c p T Pay (pd ++ [⟨x, v, rows⟩]) Got (fun b => Sent b ∨ rows b) cap r closed (w.setChan c cap ((pd.map (·.v)).toArray.push v) closed (r + pd.length + 1) r false) (t ++ u) := by
  have hG : Grow T w (w.setChan c cap ((pd.map (·.v)).toArray.push v) closed (r + pd.length + 1) r false) := grow_chan w h.chan chan_ne T
  have hsz : (w.setChan c cap ((pd.map (·.v)).toArray.push v) closed (r + pd.length + 1) r false).heap.size = w.heap.size := by simp [World.setChan]
  have hoth : ∀ b, B0 ≤ b → (w.setChan c cap ((pd.map (·.v)).toArray.push v) closed (r + pd.length + 1) r false).heap[b]? = w.heap[b]? := fun b hb => chan_other w (by omega)
  refine ⟨?_, fun e he => ?_, ?_, fun b hb => ?_, ?_⟩
  · rw [chan_self w (chan_lt h)]
    simp
    omega
  · rcases List.mem_append.1 he with he | he
    · obtain ⟨h1, h2⟩ := h.pdok e he
      refine ⟨hPay _ _ _ _ _ h1 fun b hb => hoth b (h2 b hb).1, fun b hb => ?_⟩
      obtain ⟨x1, x2, x3, x4, x5⟩ := h2 b hb
      exact ⟨x1, by rw [hsz]; exact x2, fun y => x3 ((hG.cls b x2).1 y), .inl x4, x5⟩
    · simp only [List.mem_cons, List.not_mem_nil, or_false] at he
      subst he
      refine ⟨hPay _ _ _ _ _ hx fun b hb => hoth b (hr b hb).1, fun b hb => ?_⟩
      obtain ⟨x1, x2, x3, x4⟩ := hr b hb
      exact ⟨x1, by rw [hsz]; exact x2, fun y => x3 ((hG.cls b x2).1 y), .inr hb, fun y => x4 (h.trace.gotSent b y)⟩
  · rw [List.pairwise_append]
    refine ⟨h.apart, by simp, fun e he e' he' b hb hb' => ?_⟩
    simp only [List.mem_cons, List.not_mem_nil, or_false] at he'
    subst he'
    exact (hr b hb').2.2.2 ((h.pdok e he).2 b hb).2.2.2.1
  · rcases hb with hb | hb
    · obtain ⟨x1, x2, x3⟩ := h.sent b hb
      exact ⟨x1, by rw [hsz]; exact x2, fun y => x3 ((hG.cls b x2).1 y)⟩
    · obtain ⟨x1, x2, x3, x4⟩ := hr b hb
      exact ⟨x1, by rw [hsz]; exact x2, fun y => x3 ((hG.cls b x2).1 y)⟩
  · rw [pendOf_append]
    have h' := h.trace.mute hq.1 (hq.deaf 0) (hq.deaf p) hq.2.1
    have hh : (t ++ u).heard m := hq.heard hm ho (by rw [hg]; exact h.trace.hearsp)
    exact (h.trace.send h' hq.1 hm ho hg ha hh fun b hb => ⟨(hr b hb).1, (hr b hb).2.2.1, (hr b hb).2.2.2⟩).recast (fun b hb => hG.cls b hb) hG.size

/-- The eldest message is taken. -/
theorem Com.recv (hPay : PayOk Pay) (hcB : c < B0) {e : Ent α} (h : Com B0 c p T Pay (e :: pd) Got Sent cap r closed w t) {j : Nat} {op : MemOp} (ho : t[j]? = some op) (hg : op.g = 0) (ha : op.act = .recvDone c r) (hh : t.heard j) :
    Com B0 c p T Pay pd (fun b => Got b ∨ e.rows b) Sent cap (r + 1) closed (w.setChan c cap (pd.map (·.v)).toArray closed (r + 1 + pd.length) (r + 1) false) t := by
  have hG : Grow T w (w.setChan c cap (pd.map (·.v)).toArray closed (r + 1 + pd.length) (r + 1) false) := grow_chan w h.chan chan_ne T
  have hsz : (w.setChan c cap (pd.map (·.v)).toArray closed (r + 1 + pd.length) (r + 1) false).heap.size = w.heap.size := by simp [World.setChan]
  have hoth : ∀ b, B0 ≤ b → (w.setChan c cap (pd.map (·.v)).toArray closed (r + 1 + pd.length) (r + 1) false).heap[b]? = w.heap[b]? := fun b hb => chan_other w (by omega)
  have hap := List.pairwise_cons.1 h.apart
  refine ⟨chan_self w (chan_lt h), fun e' he => ?_, hap.2, fun b hb => ?_, ?_⟩
  · obtain ⟨h1, h2⟩ := h.pdok e' (by simp [he])
    refine ⟨hPay _ _ _ _ _ h1 fun b hb => hoth b (h2 b hb).1, fun b hb => ?_⟩
    obtain ⟨x1, x2, x3, x4, x5⟩ := h2 b hb
    refine ⟨x1, by rw [hsz]; exact x2, fun y => x3 ((hG.cls b x2).1 y), x4, fun y => ?_⟩
    rcases y with y | y
    · exact x5 y
    · exact hap.1 e' he b y hb
  · obtain ⟨x1, x2, x3⟩ := h.sent b hb
    exact ⟨x1, by rw [hsz]; exact x2, fun y => x3 ((hG.cls b x2).1 y)⟩
  · exact (Two.recv h.trace ho hg ha hh).recast (fun b hb => hG.cls b hb) hG.size

theorem setChan_twice (w : World) (c cap s r s' r' cap' : Nat) (buf buf' : Array Value) (cl cl' tm tm' : Bool) : (w.setChan c cap buf cl s r tm).setChan c cap' buf' cl' s' r' tm' = w.setChan c cap' buf' cl' s' r' tm' := by
  simp [World.setChan]

variable (P B0 c T O Pay z Fin) in
/-- Where the receiver stands: on its way, or waiting at the empty channel. -/
def SitC (pd : List (Ent α)) (xs : List α) (Got : Nat → Prop) (ra : Rk) (a : Goroutine) (w : World) : Prop :=
  GoT P true (RelyC B0 c T Got) (DC B0 T Got) O (StopC P B0 c T O Pay z Fin (pd.map (·.x) ++ xs) Got) ra a w ∨
  (pd = [] ∧ ∃ g, a = parked (core g) #[rcase c z] (.recv true) ∧ ∀ w₁, RelyC B0 c T Got w w₁ → StopC P B0 c T O Pay z Fin xs Got g w₁)
variable (P B0 c T O Pay) in
/-- Where the sender stands: on its way, or waiting at the full channel. -/
def SitP (full : Prop) (xs : List α) (Sent : Nat → Prop) (rb : Rk) (b : Goroutine) (w : World) : Prop :=
  GoT P false (RelyP B0 c T) (DP B0 T Sent) (fun n => ¬ O n) (StopP P B0 c T O Pay xs Sent) rb b w ∨
  (full ∧ ∃ x xs' g v z' rows, xs = x :: xs' ∧ b = parked (core g) #[scase c v z'] .send ∧ Pay x v rows w ∧ (∀ k, rows k → B0 ≤ k ∧ k < w.heap.size ∧ ¬ isC T w k ∧ ¬ Sent k) ∧
    ∀ w₂, RelyP B0 c T w w₂ → Sends P B0 c T O Pay xs' (fun k => Sent k ∨ rows k) (Go.Conc.served (core g) undef) w₂)

theorem SitC.rely {xs : List α} {ra : Rk} {a : Goroutine} (h : SitC P B0 c T O Pay z Fin pd xs Got ra a w) (hr : RelyC B0 c T Got w w') : SitC P B0 c T O Pay z Fin pd xs Got ra a w' := by
  rcases h with hg | ⟨hpd, g, ea, hs⟩
  · exact .inl (GoT.rely (R := RelyC B0 c T Got) (fun _ _ _ h h' => RelyC.trans h h') hg hr)
  · exact .inr ⟨hpd, g, ea, fun w₂ h₂ => hs w₂ (hr.trans h₂)⟩
theorem SitP.rely (hPay : PayOk Pay) {full : Prop} {xs : List α} {rb : Rk} {b : Goroutine} (hcB : c < B0) (h : SitP P B0 c T O Pay full xs Sent rb b w) (hr : RelyP B0 c T w w') : SitP P B0 c T O Pay full xs Sent rb b w' := by
  rcases h with hg | ⟨hf, x, xs', g, v, z', rows, e1, e2, hx, hrows, hs⟩
  · exact .inl (GoT.rely (R := RelyP B0 c T) (fun _ _ _ h h' => RelyP.trans h h') hg hr)
  · refine .inr ⟨hf, x, xs', g, v, z', rows, e1, e2, hPay _ _ _ _ _ hx fun k hk => hr.2 k (hrows k hk).2.1 (by have := (hrows k hk).1; omega) (.inr (hrows k hk).2.2.1), fun k hk => ?_, fun w₂ h₂ => hs w₂ (hr.trans h₂)⟩
    obtain ⟨x1, x2, x3, x4⟩ := hrows k hk
    exact ⟨x1, Nat.lt_of_lt_of_le x2 hr.1.size, fun y => x3 ((hr.1.cls k x2).1 y), x4⟩
theorem SitC.status {xs : List α} {ra : Rk} {a : Goroutine} (h : SitC P B0 c T O Pay z Fin pd xs Got ra a w) : a.status = .running ∨ (a.status = .blocked ∧ pd = []) := by
  rcases h with hg | ⟨hpd, g, rfl, _⟩
  · exact .inl (hg.running (fun _ _ => StopC.running) w (RelyC.refl w))
  · exact .inr ⟨rfl, hpd⟩
theorem SitP.status {full : Prop} {xs : List α} {rb : Rk} {b : Goroutine} (h : SitP P B0 c T O Pay full xs Sent rb b w) : b.status = .running ∨ (b.status = .blocked ∧ full) := by
  rcases h with hg | ⟨hf, x, xs', g, v, z', rows, _, rfl, _⟩
  · exact .inl (hg.running (fun _ _ => StopP.running) w (RelyP.refl w))
  · exact .inr ⟨rfl, hf⟩
theorem SitC.woken {xs : List α} {ra : Rk} {a g g' : Goroutine} {buf : Array Value} {s r : Nat} {tm : Bool} (h : SitC P B0 c T O Pay z Fin pd xs Got ra a w) (hc : w'.heap[c]? = some (.chan cap buf false s r tm)) : woken P g g' w' a = a := by
  rcases h with hg | ⟨_, g, rfl, _⟩
  · exact woken_run (hg.running (fun _ _ => StopC.running) w (RelyC.refl w))
  · exact woken_recv_open _ _ hc
theorem SitP.woken {full : Prop} {xs : List α} {rb : Rk} {b g g' : Goroutine} {buf : Array Value} {s r : Nat} {tm : Bool} (h : SitP P B0 c T O Pay full xs Sent rb b w) (hc : w'.heap[c]? = some (.chan cap buf false s r tm)) : woken P g g' w' b = b := by
  rcases h with hg | ⟨_, x, xs', g, v, z', rows, _, rfl, _⟩
  · exact woken_run (hg.running (fun _ _ => StopP.running) w (RelyP.refl w))
  · exact woken_send_open _ _ hc
end
end Go.Proofs.Ytlkhknoaifbajaa

/- A sender and a receiver over a channel with a buffer: FROM THE CLOSE TO THE RECEIVE THAT FINDS IT, on whatever tape. -/
namespace Go.Proofs.Ytlkhknoaifbajaa
open Go Go.Conc
open Go.ConcN (sumTo upd sumTo_upd upd_ne upd_same)
set_option linter.unusedVariables false
set_option linter.unusedSimpArgs false

/-- The machine comes to a frame in which goroutine 0 and the world meet Fin. -/
def Res (P : Program) (Fin : Goroutine → World → Prop) (gs : Array Goroutine) (w : World) (sl : Option (Nat × Nat)) (t : Trace) : Prop :=
  ∃ (N : Nat) (gs' : Array Goroutine) (a' : Goroutine) (w' : World) (sl' : Option (Nat × Nat)) (t' : Trace) (q' : Nat → Nat),
    runNT P N (crowd gs w sl) t = (.next (crowd gs' w' sl'), t') ∧ Fin a' w' ∧ Frm P a' w' gs' t' q'
theorem Res.step {P : Program} {Fin : Goroutine → World → Prop} {gs gs1 : Array Goroutine} {w w1 : World} {sl sl1 : Option (Nat × Nat)} {t : Trace} {ops : Array MemOp} (h : stepT P (crowd gs w sl) = (.next (crowd gs1 w1 sl1), ops)) (h' : Res P Fin gs1 w1 sl1 (t ++ ops)) : Res P Fin gs w sl t := by
  obtain ⟨N, gs2, a2, w2, sl2, t2, q2, hr, hf, hF⟩ := h'
  exact ⟨N + 1, gs2, a2, w2, sl2, t2, q2, by simp only [runNT, h]; exact hr, hf, hF⟩

section
variable {P : Program} {gs : Array Goroutine} {w : World} {t : Trace} {q : Nat → Nat}
/-- A leaver slips: what is left of the others. -/
theorem slip {p : Nat} {a b g g' : Goroutine} {es : Array Event} {i k d : Nat} (hpool : Pool P p gs a b t q) (hi : gs[i]? = some g) (hi0 : i ≠ 0) (hip : i ≠ p) (hw0 : woken P g g' (w.at d) a = a) (hw1 : woken P g g' (w.at d) b = b)
    (hm : ∀ e ∈ es, Event.mute e = true) (hq' : QuitsD P k (deafBehind (Deaf t i) es) g') :
    Pool P p ((gs.map (woken P g g' (w.at d))).setIfInBounds i g') a b (t ++ MemOp.ofEvents i g.frame.fn g.frame.place es) (upd q i k) := by
  have hlt : i < gs.size := (Array.getElem?_eq_some_iff.1 hi).1
  have hget := get_woken (P := P) gs (g := g) (g' := g') (w' := w.at d) hlt fun j x hji hx => by
    by_cases h0 : j = 0
    · subst h0; rw [hpool.zero] at hx; obtain rfl := Option.some.inj hx; exact hw0
    · by_cases h1 : j = p
      · subst h1; rw [hpool.one] at hx; obtain rfl := Option.some.inj hx; exact hw1
      · exact woken_quitsD (hpool.others j x (by omega) h1 hx)
  refine ⟨by rw [hget, if_neg hi0]; exact hpool.zero, by rw [hget, if_neg hip]; exact hpool.one, fun j x hj hjp hx => ?_, fun j hj => ?_⟩
  · rw [hget] at hx
    by_cases hji : i = j
    · subst hji
      rw [if_pos rfl] at hx
      obtain rfl := Option.some.inj hx
      rw [upd_same, Deaf_own]
      exact hq'
    · rw [if_neg hji] at hx
      rw [upd_ne q k (Ne.symm hji), Deaf_other t hji _ (fun op hop => by obtain ⟨e, _, rfl⟩ := Go.Conc.mem_ofEvents hop; rfl)]
      exact hpool.others j x hj hjp hx
  · have : gs.size ≤ j := by simpa using hj
    rw [Deaf_other t (g' := i) (by omega) _ (fun op hop => by obtain ⟨e, _, rfl⟩ := Go.Conc.mem_ofEvents hop; rfl)]
    exact hpool.above j this

theorem mute_trace {i : Nat} {fn : FuncId} {pos : String} {es : Array Event} {B0 p c : Nat} {C Got Sent : Nat → Prop} {pend : List (Nat × (Nat → Prop))} {B : Nat} (h : Two B0 p c C Got Sent pend B t) (h0 : i ≠ 0) (hp : i ≠ p) (hm : ∀ e ∈ es, Event.mute e = true) :
    Two B0 p c C Got Sent pend B (t ++ MemOp.ofEvents i fn pos es) := by
  have hu : ∀ op ∈ MemOp.ofEvents i fn pos es, op.g = i := fun op hop => by obtain ⟨e, _, rfl⟩ := Go.Conc.mem_ofEvents hop; rfl
  exact h.mute (fun op hop => by obtain ⟨e, he, rfl⟩ := Go.Conc.mem_ofEvents hop; exact touch_mute (hm e he)) (Deaf_other t h0 _ hu) (Deaf_other t hp _ hu)
    fun op hop => by obtain ⟨e, he, rfl⟩ := Go.Conc.mem_ofEvents hop; exact low_mute (hm e he) B
end

theorem setChan_size (w : World) (c cap s r : Nat) (buf : Array Value) (cl tm : Bool) : (w.setChan c cap buf cl s r tm).heap.size = w.heap.size := by simp [World.setChan]
/-- What is foretold of the run from m0. -/
def Told (P : Program) (m0 : Machine) (O : Nat → Prop) : Prop := ∀ m m1 m' i, OnRun P m0 m → step P m = .next m' → m'.world.heap.size = m.world.heap.size + 1 → move P m = .goroutine m1 i → (O m.world.heap.size ↔ i = 0)
theorem told (P : Program) (m0 : Machine) : Told P m0 (Own0 P m0) := fun _ _ _ _ h1 h2 h3 h4 => own0_iff h1 h2 h3 h4
/-- Its turn has come: it stands at a stop, or takes a step of its own. -/
theorem GoT.turn {P : Program} {main : Bool} {R : World → World → Prop} {D : World → World → Array Event → Prop} {Own : Nat → Prop} {Stop : Goroutine → World → Prop} {gs : Array Goroutine} {w : World} {sl sl' : Option (Nat × Nat)} {i d : Nat} {g : Goroutine} {r : Rk}
    (h : GoT P main R D Own Stop r g w) (hm : (i == 0) = main) (hi : gs[i]? = some g) (hst : stepT P (crowd gs w sl) = runT P (crowd gs (w.at d) sl') i) (hat : R w (w.at d))
    (hown : ∀ m', step P (crowd gs w sl) = .next m' → m'.world.heap.size = w.heap.size + 1 → Own w.heap.size) :
    (∀ w₁, R w w₁ → Stop g w₁) ∨ ∃ g' w' es r', stepG P main g (w.at d) = .go g' w' es ∧ D (w.at d) w' es ∧ Rk.lt r' r ∧ GoT P main R D Own Stop r' g' w' := by
  cases r with
  | zero => exact h.elim
  | lim f =>
    rcases h with h | ⟨_, h⟩ | ⟨_, h⟩
    · exact .inl h
    · obtain ⟨g', w', es, h1, h2, h3⟩ := h _ hat
      exact .inr ⟨g', w', es, _, h1, h2, ⟨f, w.at d, rfl, rfl⟩, h3⟩
    · obtain ⟨g', w', es, h1, h2, h3⟩ := h _ hat
      have hrT := runT_crowd_go (P := P) (sl := sl') (i := i) hi (by rw [hm]; exact h1)
      obtain ⟨h4, h5⟩ := h3 (hown _ (step_of_stepT (hst.trans hrT)) h2)
      exact .inr ⟨g', w', es, _, h1, h4, ⟨f, w.at d, rfl, rfl⟩, h5⟩
theorem OnRun.on {P : Program} {m0 : Machine} {gs gs1 : Array Goroutine} {w w1 : World} {sl sl1 : Option (Nat × Nat)} {ops : Array MemOp} (h : OnRun P m0 (crowd gs w sl)) (hst : stepT P (crowd gs w sl) = (.next (crowd gs1 w1 sl1), ops)) (hle : w.heap.size ≤ w1.heap.size) : OnRun P m0 (crowd gs1 w1 sl1) :=
  h.next (step_of_stepT hst) hle

section
variable {P : Program} {m0 : Machine} {B0 c p : Nat} {T : Cls} {O : Nat → Prop} {α : Type} {Pay : α → Value → (Nat → Prop) → World → Prop} {z : Value} {Fin : Goroutine → World → Prop}

theorem Com.at {pd : List (Ent α)} {Got Sent : Nat → Prop} {cap r : Nat} {closed : Bool} {w : World} {t : Trace} (hPay : PayOk Pay) (h : Com B0 c p T Pay pd Got Sent cap r closed w t) (d : Nat) : Com B0 c p T Pay pd Got Sent cap r closed (w.at d) t :=
  h.turn hPay (Grow.at T w d) rfl fun _ _ => rfl
theorem Com.trace' {pd : List (Ent α)} {Got Sent : Nat → Prop} {cap r : Nat} {closed : Bool} {w : World} {t t' : Trace} (h : Com B0 c p T Pay pd Got Sent cap r closed w t) (ht : Two B0 p c (isC T w) Got Sent (pendOf r pd) w.heap.size t') : Com B0 c p T Pay pd Got Sent cap r closed w t' :=
  ⟨h.chan, h.pdok, h.apart, h.sent, ht⟩

/-- Behind a receive of a message, the receiver goes on. -/
theorem recv_on {e : Ent α} {xs : List α} {Got : Nat → Prop} {a : Goroutine} {w w2 : World} (hs : StopC P B0 c T O Pay z Fin (e.x :: xs) Got a w) (hr : RelyC B0 c T Got w w2) (hx : Pay e.x e.v e.rows w2) (hrows : ∀ b, e.rows b → B0 ≤ b ∧ b < w2.heap.size ∧ ¬ isC T w2 b ∧ ¬ Got b) :
    ∃ n, GoT P true (RelyC B0 c T (fun b => Got b ∨ e.rows b)) (DC B0 T (fun b => Got b ∨ e.rows b)) O (StopC P B0 c T O Pay z Fin xs (fun b => Got b ∨ e.rows b)) n (Go.Conc.served (core a) (.tuple #[e.v, .bool true])) w2 :=
  (recvs_iff P B0 c T O Pay z Fin xs _ _ _).1 (hs.cons w2 hr e.v e.rows hx hrows)

/-- ████ FROM THE CLOSE ON. ████ -/
theorem phase_shut (hO : Told P m0 O) (hPay : PayOk Pay) (hp : p ≠ 0) (hcB : c < B0) : ∀ (A : Nat) (ra : Rk) (B : Nat) (gs : Array Goroutine) (a b : Goroutine) (w : World) (sl : Option (Nat × Nat)) (t : Trace) (q : Nat → Nat) (pd : List (Ent α)) (Got Sent : Nat → Prop) (cap r rb : Nat),
    pd.length = A → rb + sumTo gs.size q = B → OnRun P m0 (crowd gs w sl) → Pool P p gs a b t q → Com B0 c p T Pay pd Got Sent cap r true w t → Shut p c t → GoT P true (RelyC B0 c T Got) (DC B0 T Got) O (StopC P B0 c T O Pay z Fin (pd.map (·.x)) Got) ra a w → QuitsIn P rb b →
    Res P Fin gs w sl t := by
  intro A
  induction A using Nat.strongRecOn with
  | ind A ihA =>
  intro ra
  induction ra using Rk.induct with
  | h ra iha =>
  intro B
  induction B using Nat.strongRecOn with
  | ind B ihB =>
  intro gs a b w sl t q pd Got Sent cap r rb hA hB hon hpool hcom hsh hgo hquit
  have hrun : a.status = .running := hgo.running (fun _ _ => StopC.running) w (RelyC.refl w)
  have hbs := hquit.status
  have hbn : ∀ s, offersAt b c s = [] := fun s => offersAt_of_not_blocked (by rcases hbs with e | e <;> rw [e] <;> simp) _ _
  obtain ⟨i, g, d, sl', hi, hg, hst, hmv⟩ := crowd_move (P := P) (w := w) (sl := sl) (hpool.awake (awake_of (.inl hrun)) (awake_of (hbs.elim .inl fun x => .inr (.inr x)))) ⟨0, a, hpool.zero, hrun⟩
  have hat := hcom.at hPay d
  have hlt0 : 0 < gs.size := (Array.getElem?_eq_some_iff.1 hpool.zero).1
  have hltp := hpool.lt
  by_cases hi0 : i = 0
  · -- the receiver
    subst hi0
    obtain rfl : g = a := by rw [hpool.zero] at hi; exact (Option.some.inj hi).symm
    rcases hgo.turn (i := 0) rfl hi hst (RelyC.at w d) (fun m' h1 h2 => (hO _ _ m' 0 hon h1 h2 hmv).2 rfl) with hstop | ⟨g', w', es, r', hgoes, hDC, hlt, hgo'⟩
    · have hs := hstop (w.at d) (RelyC.at w d)
      have hcomm : stepG P (0 == 0) g (w.at d) = .comm (core g) #[rcase c z] true (.recv true) (w.at d) #[] := hs.comm d
      cases pd with
      | nil =>
        have hrT := crowd_recv_closed (sl := sl') hi hcomm (by simpa using hat.chan) (hpool.parts0 hp (hbn true))
        rw [finishComm_recv, show MemOp.ofEvents 0 g.frame.fn g.frame.place #[] = #[] from rfl, Array.empty_append] at hrT
        refine Res.step (hst.trans hrT) ⟨0, _, _, _, _, _, upd q p rb, rfl, hs.nil (w.at d) (RelyC.refl _), ?_⟩
        have hqu : Quiet (#[{ g := 0, fn := (core g).frame.fn, pos := (core g).frame.place, act := .recvClosed c }] : Trace) (w.at d).heap.size := quiet_of fun op hop => by
          simp only [List.mem_toArray, List.mem_cons, List.not_mem_nil, or_false] at hop
          subst hop
          exact ⟨rfl, chan_lt hat, fun _ _ => rfl⟩
        have ho : (t ++ #[{ g := 0, fn := (core g).frame.fn, pos := (core g).frame.place, act := .recvClosed c }])[t.size]? = some { g := 0, fn := (core g).frame.fn, pos := (core g).frame.place, act := .recvClosed c } := by simp
        have hTw := hat.trace.mute hqu.1 (hqu.deaf 0) (hqu.deaf p) hqu.2.1
        refine ⟨by rw [get_set _ _ _ _ hlt0, if_pos rfl]; rfl, ⟨fun j x hj hx => ?_, fun j hj => ?_⟩, hTw.toPast (hsh.app fun op hop => .inr (hqu.1 op hop)) ho rfl rfl (hqu.heard (Nat.le_refl _) ho hat.trace.hears0)⟩
        · have hne : 0 ≠ j := by omega
          rw [Array.getElem?_setIfInBounds_ne hne] at hx
          rw [hqu.deaf]
          by_cases hjp : j = p
          · subst hjp
            rw [hpool.one] at hx
            obtain rfl := Option.some.inj hx
            rw [upd_same, hat.trace.hearsp]
            exact .of_quitsIn hquit
          · rw [upd_ne q rb hjp]
            exact hpool.others j x hj hjp hx
        · rw [hqu.deaf]
          exact hpool.above j (by simpa using hj)
      | cons e pd' =>
        have hrT := crowd_recv_buf (sl := sl') hi hcomm hat.chan (by simp) (hpool.parts0 hp (hbn true))
        rw [finishComm_recv, show MemOp.ofEvents 0 g.frame.fn g.frame.place #[] = #[] from rfl, Array.empty_append] at hrT
        have hbuf : ((e :: pd').map (·.v)).toArray.extract 1 ((e :: pd').map (·.v)).toArray.size = (pd'.map (·.v)).toArray := by
          simp
          exact List.take_of_length_le (by simp)
        have hhd : ((e :: pd').map (·.v)).toArray.getD 0 undef = e.v := by simp
        have hlen : r + (e :: pd').length = r + 1 + pd'.length := by simp; omega
        rw [hbuf, hhd, hlen] at hrT
        generalize hu : (#[{ g := 0, fn := (core g).frame.fn, pos := (core g).frame.place, act := .recv c r cap }, { g := 0, fn := (core g).frame.fn, pos := (core g).frame.place, act := .recvDone c r }] : Trace) = u at hrT
        have hqu : Quiet u (w.at d).heap.size := quiet_of fun op hop => by
          subst hu
          simp only [List.mem_toArray, List.mem_cons, List.not_mem_nil, or_false] at hop
          rcases hop with rfl | rfl <;> exact ⟨rfl, chan_lt hat, fun _ _ => rfl⟩
        have ho : (t ++ u)[t.size + 1]? = some { g := 0, fn := (core g).frame.fn, pos := (core g).frame.place, act := .recvDone c r } := by subst hu; simp
        have hc1 := (hat.trace' (hat.trace.mute hqu.1 (hqu.deaf 0) (hqu.deaf p) hqu.2.1)).recv hPay hcB ho rfl rfl (hqu.heard (by omega) ho hat.trace.hears0)
        obtain ⟨he1, he2⟩ := hat.pdok e (by simp)
        obtain ⟨n2, hn2⟩ := recv_on (e := e) (xs := pd'.map (·.x)) hs (RelyC.chan (w.at d) (cap := cap) (s := r + 1 + pd'.length) (r := r + 1) (buf := (pd'.map (·.v)).toArray) (cl := true) (tm := false) hat.chan chan_ne)
          (hPay _ _ _ _ _ he1 fun k hk => chan_other (w.at d) (by have := (he2 k hk).1; omega)) fun k hk => by have h := hc1.sent k (he2 k hk).2.2.2.1; exact ⟨h.1, h.2.1, h.2.2, (he2 k hk).2.2.2.2⟩
        have hlen' : (e :: pd').length = pd'.length + 1 := rfl
        refine Res.step (hst.trans hrT) (ihA pd'.length (by omega) n2 _ _ _ b _ sl' _ q pd' _ Sent cap (r + 1) rb rfl rfl (hon.on (hst.trans hrT) (by rw [setChan_size]; exact Nat.le_refl _)) (hpool.next (by simp) (by rw [get_set _ _ _ _ hlt0, if_pos rfl]; rfl) (by rw [get_set _ _ _ _ hlt0, if_neg (Ne.symm hp)]; exact hpool.one) (fun j h0 _ => by rw [get_set _ _ _ _ hlt0, if_neg (Ne.symm h0)]) fun j _ _ => hqu.deaf j) hc1
          (hsh.app fun op hop => .inr (hqu.1 op hop)) hn2 hquit)
    · have hrT := runT_crowd_go (P := P) (sl := sl') (i := 0) hi (show stepG P (0 == 0) g (w.at d) = _ from hgoes)
      have hget := get_woken (P := P) gs (g := g) (g' := g') (w' := w') hlt0 fun j x hj hx => by
        by_cases h1 : j = p
        · subst h1; rw [hpool.one] at hx; obtain rfl := Option.some.inj hx; exact woken_quitsD (.of_quitsIn hquit)
        · exact woken_quitsD (hpool.others j x (by omega) h1 hx)
      have hu : ∀ op ∈ MemOp.ofEvents 0 g.frame.fn g.frame.place es, op.g = 0 := fun op hop => by obtain ⟨e, _, rfl⟩ := Go.Conc.mem_ofEvents hop; rfl
      exact Res.step (hst.trans hrT) (iha r' hlt (rb + sumTo gs.size q) _ _ b _ sl' _ q pd Got Sent cap r rb hA (by simp) (hon.on (hst.trans hrT) hDC.1.size)
        (hpool.next (by simp) (by rw [hget, if_pos rfl]) (by rw [hget, if_neg (Ne.symm hp)]; exact hpool.one) (fun j h0 _ => by rw [hget, if_neg (Ne.symm h0)]) fun j h0 _ => Deaf_other t (Ne.symm h0) _ hu)
        (hat.stepC hPay hp hcB hDC _ _) (hsh.app fun op hop => .inl (hu op hop)) hgo' hquit)
  · by_cases hip : i = p
    · -- the sender, leaving
      subst hip
      obtain rfl : g = b := by rw [hpool.one] at hi; exact (Option.some.inj hi).symm
      cases rb with
      | zero => rw [show g.status = .finished from hquit] at hg; cases hg
      | succ k =>
        rcases hquit with hfin | ⟨_, g', hstp, hq'⟩
        · rw [hfin] at hg; cases hg
        · have hi0' : (i == 0) = false := by simp; omega
          have hrT := runT_crowd_go (P := P) (sl := sl') (i := i) hi (by rw [hi0']; exact hstp (w.at d))
          rw [show MemOp.ofEvents i g.frame.fn g.frame.place #[] = #[] from rfl] at hrT
          have hget := get_woken (P := P) gs (g := g) (g' := g') (w' := w.at d) hltp fun j x hj hx => by
            by_cases h1 : j = 0
            · subst h1; rw [hpool.zero] at hx; obtain rfl := Option.some.inj hx; exact woken_run hrun
            · exact woken_quitsD (hpool.others j x (by omega) hj hx)
          refine Res.step (hst.trans hrT) ?_
          rw [Array.append_empty]
          exact ihB (k + sumTo gs.size q) (by omega) _ a g' _ sl' _ q pd Got Sent cap r k hA (by simp) (hon.on (hst.trans hrT) (Nat.le_refl _))
            (hpool.next (by simp) (by rw [hget, if_neg hi0]; exact hpool.zero) (by rw [hget, if_pos rfl]) (fun j _ h1 => by rw [hget, if_neg (Ne.symm h1)]) fun j _ _ => rfl)
            hat hsh (GoT.rely (R := RelyC B0 c T Got) (fun _ _ _ h h' => RelyC.trans h h') hgo (RelyC.at w d)) hq'
    · -- a leaver slips
      have hq := hpool.others i g (by omega) hip hi
      have hi0' : (i == 0) = false := by simp; omega
      have hlt : i < gs.size := (Array.getElem?_eq_some_iff.1 hi).1
      cases hqi : q i with
      | zero => rw [hqi] at hq; rw [hq.1] at hg; cases hg
      | succ k =>
        rw [hqi] at hq
        rcases hq with ⟨hfin, _⟩ | ⟨_, g', es, hm, hstp, hq'⟩
        · rw [hfin] at hg; cases hg
        have hrT := runT_crowd_go (P := P) (sl := sl') (i := i) hi (by rw [hi0']; exact hstp (w.at d))
        have hsum : sumTo gs.size (upd q i k) + (k + 1) = sumTo gs.size q + k := by
          have := sumTo_upd q k id hlt
          simpa [hqi] using this
        refine Res.step (hst.trans hrT) (ihB (rb + sumTo gs.size (upd q i k)) (by omega) _ a b _ sl' _ (upd q i k) pd Got Sent cap r rb hA (by simp) (hon.on (hst.trans hrT) (Nat.le_refl _))
          (slip hpool hi hi0 hip (woken_run hrun) (woken_quitsD (.of_quitsIn hquit)) hm hq') (hat.trace' (mute_trace hat.trace hi0 hip hm))
          (hsh.app fun op hop => .inr ?_) (GoT.rely (R := RelyC B0 c T Got) (fun _ _ _ h h' => RelyC.trans h h') hgo (RelyC.at w d)) hquit)
        obtain ⟨e, he, rfl⟩ := Go.Conc.mem_ofEvents hop
        exact touch_mute (hm e he)
end
end Go.Proofs.Ytlkhknoaifbajaa

/- A sender and a receiver over a channel with a buffer, both of which make memory: THE MACHINE, ON WHATEVER TAPE, while the channel is open. -/
namespace Go.Proofs.Ytlkhknoaifbajaa
open Go Go.Conc
open Go.ConcN (sumTo upd sumTo_upd upd_ne upd_same)
set_option linter.unusedVariables false
set_option linter.unusedSimpArgs false

section
variable {P : Program} {m0 : Machine} {B0 c p : Nat} {T : Cls} {O : Nat → Prop} {α : Type} {Pay : α → Value → (Nat → Prop) → World → Prop} {z : Value} {Fin : Goroutine → World → Prop}

theorem no_events (g : Nat) (fn : FuncId) (pos : String) : MemOp.ofEvents g fn pos #[] = #[] := rfl

theorem offers_C {pd : List (Ent α)} {xs : List α} {Got : Nat → Prop} {ra : Rk} {a : Goroutine} {w : World} (h : SitC P B0 c T O Pay z Fin pd xs Got ra a w) : (a.status = .running ∧ ∀ s, offersAt a c s = []) ∨ (pd = [] ∧ ∃ g, a = parked (core g) #[rcase c z] (.recv true) ∧ ∀ w₁, RelyC B0 c T Got w w₁ → StopC P B0 c T O Pay z Fin xs Got g w₁) := by
  rcases h with hg | ⟨e, g, rfl, hs⟩
  · have hr := hg.running (fun _ _ => StopC.running) w (RelyC.refl w)
    exact .inl ⟨hr, fun s => offersAt_of_not_blocked (by rw [hr]; simp) _ _⟩
  · exact .inr ⟨e, g, rfl, hs⟩

theorem ways_send_full {w₁ : World} {gs : Array Goroutine} {cap s r : Nat} {buf : Array Value} {v z' : Value} (hc : w₁.heap[c]? = some (.chan cap buf false s r false)) (hfull : cap ≤ buf.size) (hp : partners gs c false = []) : NoWays w₁ gs (scase c v z') :=
  ⟨made_send v z' hc, by simp [ways, scase, hc, hp]; omega⟩

theorem Com.close {pd : List (Ent α)} {Got Sent : Nat → Prop} {cap r : Nat} {w : World} {t : Trace} (hPay : PayOk Pay) (hcB : c < B0) (h : Com B0 c p T Pay pd Got Sent cap r false w t) :
    Com B0 c p T Pay pd Got Sent cap r true (w.setChan c cap (pd.map (·.v)).toArray true (r + pd.length) r false) t := by
  have hG : Grow T w (w.setChan c cap (pd.map (·.v)).toArray true (r + pd.length) r false) := grow_chan w h.chan chan_ne T
  have hsz : (w.setChan c cap (pd.map (·.v)).toArray true (r + pd.length) r false).heap.size = w.heap.size := by simp [World.setChan]
  have hoth : ∀ b, B0 ≤ b → (w.setChan c cap (pd.map (·.v)).toArray true (r + pd.length) r false).heap[b]? = w.heap[b]? := fun b hb => chan_other w (by omega)
  refine ⟨chan_self w (chan_lt h), fun e he => ?_, h.apart, fun b hb => ?_, h.trace.recast (fun b hb => hG.cls b hb) hG.size⟩
  · obtain ⟨h1, h2⟩ := h.pdok e he
    refine ⟨hPay _ _ _ _ _ h1 fun b hb => hoth b (h2 b hb).1, fun b hb => ?_⟩
    obtain ⟨x1, x2, x3, x4, x5⟩ := h2 b hb
    exact ⟨x1, by rw [hsz]; exact x2, fun y => x3 ((hG.cls b x2).1 y), x4, x5⟩
  · obtain ⟨x1, x2, x3⟩ := h.sent b hb
    exact ⟨x1, by rw [hsz]; exact x2, fun y => x3 ((hG.cls b x2).1 y)⟩

theorem get_map (gs : Array Goroutine) (f : Goroutine → Goroutine) {i : Nat} (x : Goroutine) (hi : i < gs.size) (j : Nat) : ((gs.map f).setIfInBounds i x)[j]? = if i = j then some x else (gs[j]?).map f := by
  by_cases e : i = j
  · subst e; simp [hi]
  · rw [Array.getElem?_setIfInBounds_ne e, if_neg e, Array.getElem?_map]

/-- ████ WHILE THE CHANNEL IS OPEN. ████ -/
theorem phase_open (hO : Told P m0 O) (hPay : PayOk Pay) (hp : p ≠ 0) (hcB : c < B0) {cap : Nat} (hcap : 0 < cap) : ∀ (A : Nat) (ra rb : Rk) (B : Nat) (gs : Array Goroutine) (a b : Goroutine) (w : World) (sl : Option (Nat × Nat)) (t : Trace) (q : Nat → Nat) (pd : List (Ent α)) (xs : List α) (Got Sent : Nat → Prop) (r ka kb : Nat),
    2 * xs.length + pd.length = A → ka + kb + sumTo gs.size q = B → (a.status = .running → ka = 1) → (b.status = .running → kb = 1) → OnRun P m0 (crowd gs w sl) → pd.length ≤ cap → Pool P p gs a b t q → Com B0 c p T Pay pd Got Sent cap r false w t → SitC P B0 c T O Pay z Fin pd xs Got ra a w → SitP P B0 c T O Pay (pd.length = cap) xs Sent rb b w →
    Res P Fin gs w sl t := by
  intro A
  induction A using Nat.strongRecOn with
  | ind A ihA =>
  intro ra
  induction ra using Rk.induct with
  | h ra iha =>
  intro rb
  induction rb using Rk.induct with
  | h rb ihb =>
  intro B
  induction B using Nat.strongRecOn with
  | ind B ihB =>
  intro gs a b w sl t q pd xs Got Sent r ka kb hA hB hka hkb hon hle hpool hcom hsc hsp
  have hsa := hsc.status
  have hsb := hsp.status
  have hsome : ∃ (i : Nat) (g : Goroutine), gs[i]? = some g ∧ g.status = .running := by
    rcases hsa with h | ⟨h, h0⟩
    · exact ⟨0, a, hpool.zero, h⟩
    · rcases hsb with h | ⟨_, h1⟩
      · exact ⟨p, b, hpool.one, h⟩
      · exfalso
        rw [h0] at h1; simp at h1; omega
  obtain ⟨i, g, d, sl', hi, hg, hst, hmv⟩ := crowd_move (P := P) (w := w) (sl := sl) (hpool.awake (awake_of (by rcases hsa with h | ⟨h, _⟩ <;> simp [h])) (awake_of (by rcases hsb with h | ⟨h, _⟩ <;> simp [h]))) hsome
  have hat := hcom.at hPay d
  have hsc1 := hsc.rely (RelyC.at w d)
  have hsp1 := hsp.rely hPay hcB (RelyP.at w d)
  have hlt0 : 0 < gs.size := (Array.getElem?_eq_some_iff.1 hpool.zero).1
  have hltp := hpool.lt
  have hcs : c < (w.at d).heap.size := chan_lt hat
  by_cases hi0 : i = 0
  · -- THE RECEIVER MOVES
    subst hi0
    obtain rfl : g = a := by rw [hpool.zero] at hi; exact (Option.some.inj hi).symm
    rcases hsc with hgo | ⟨_, g0, rfl, _⟩
    · rcases hgo.turn (i := 0) rfl hi hst (RelyC.at w d) (fun m' h1 h2 => (hO _ _ m' 0 hon h1 h2 hmv).2 rfl) with hstop | ⟨g', w', es, r', hgoes, hDC, hlt, hgo'⟩
      · -- it stands at the receive
        have hs := hstop (w.at d) (RelyC.at w d)
        have hcomm : stepG P (0 == 0) g (w.at d) = .comm (core g) #[rcase c z] true (.recv true) (w.at d) #[] := hs.comm d
        cases pd with
        | nil =>
          -- the buffer is empty: it waits
          have hbn : offersAt b c true = [] := by
            rcases hsp with hg2 | ⟨hf, _⟩
            · exact offersAt_of_not_blocked (by rw [hg2.running (fun _ _ => StopP.running) w (RelyP.refl w)]; simp) _ _
            · simp at hf; omega
          have hrT := crowd_waits (sl := sl') hi hcomm fun cc hcc => by
            simp only [List.mem_toArray, List.mem_cons, List.not_mem_nil, or_false] at hcc
            subst hcc
            exact ways_recv_none (by simpa using hat.chan) (hpool.parts0 hp hbn)
          rw [no_events] at hrT
          refine Res.step (hst.trans hrT) ?_
          rw [Array.append_empty]
          exact ihB (0 + kb + sumTo gs.size q) (by have := hka hg; omega) _ _ b _ sl' _ q [] xs Got Sent r 0 kb hA (by simp) (fun h => by cases h) hkb (hon.on (hst.trans hrT) (Nat.le_refl _)) hle
            (hpool.next (by simp) (by rw [get_set _ _ _ _ hlt0, if_pos rfl]) (by rw [get_set _ _ _ _ hlt0, if_neg (Ne.symm hp)]; exact hpool.one) (fun j h0 _ => by rw [get_set _ _ _ _ hlt0, if_neg (Ne.symm h0)]) fun j _ _ => rfl)
            hat (.inr ⟨rfl, g, rfl, fun w₁ h₁ => hstop w₁ ((RelyC.at w d).trans h₁)⟩) hsp1
        | cons e pd' =>
          have hbuf : ((e :: pd').map (·.v)).toArray.extract 1 ((e :: pd').map (·.v)).toArray.size = (pd'.map (·.v)).toArray := by
            simp
            exact List.take_of_length_le (by simp)
          have hhd : ((e :: pd').map (·.v)).toArray.getD 0 undef = e.v := by simp
          have hlen : r + (e :: pd').length = r + 1 + pd'.length := by simp; omega
          have hlen' : (e :: pd').length = pd'.length + 1 := rfl
          obtain ⟨he1, he2⟩ := hat.pdok e (by simp)
          rcases hsp1 with hgp | ⟨hf, x, xs', gp, v, z', rows, rfl, rfl, hx, hrows, hnext⟩
          · -- the sender is on its way
            have hbn : offersAt b c true = [] := offersAt_of_not_blocked (by rw [hgp.running (fun _ _ => StopP.running) (w.at d) (RelyP.refl _)]; simp) _ _
            have hrT := crowd_recv_buf (sl := sl') hi hcomm hat.chan (by simp) (hpool.parts0 hp hbn)
            rw [finishComm_recv, no_events, Array.empty_append, hbuf, hhd, hlen] at hrT
            generalize hu : (#[{ g := 0, fn := (core g).frame.fn, pos := (core g).frame.place, act := .recv c r cap }, { g := 0, fn := (core g).frame.fn, pos := (core g).frame.place, act := .recvDone c r }] : Trace) = u at hrT
            have hqu : Quiet u (w.at d).heap.size := quiet_of fun op hop => by
              subst hu
              simp only [List.mem_toArray, List.mem_cons, List.not_mem_nil, or_false] at hop
              rcases hop with rfl | rfl <;> exact ⟨rfl, hcs, fun _ _ => rfl⟩
            have ho : (t ++ u)[t.size + 1]? = some { g := 0, fn := (core g).frame.fn, pos := (core g).frame.place, act := .recvDone c r } := by subst hu; simp
            have hc1 := (hat.trace' (hat.trace.mute hqu.1 (hqu.deaf 0) (hqu.deaf p) hqu.2.1)).recv hPay hcB ho rfl rfl (hqu.heard (by omega) ho hat.trace.hears0)
            obtain ⟨n2, hn2⟩ := recv_on (e := e) (xs := pd'.map (·.x) ++ xs) hs (RelyC.chan (w.at d) (cap := cap) (s := r + 1 + pd'.length) (r := r + 1) (buf := (pd'.map (·.v)).toArray) (cl := false) (tm := false) hat.chan chan_ne)
              (hPay _ _ _ _ _ he1 fun k hk => chan_other (w.at d) (by have := (he2 k hk).1; omega)) fun k hk => by have h := hc1.sent k (he2 k hk).2.2.2.1; exact ⟨h.1, h.2.1, h.2.2, (he2 k hk).2.2.2.2⟩
            refine Res.step (hst.trans hrT) (ihA (2 * xs.length + pd'.length) (by omega) n2 rb _ _ _ b _ sl' _ q pd' xs _ Sent (r + 1) 1 1 rfl rfl (fun _ => rfl) (fun _ => rfl) (hon.on (hst.trans hrT) (by rw [setChan_size]; exact Nat.le_refl _)) (by omega)
              (hpool.next (by simp) (by rw [get_set _ _ _ _ hlt0, if_pos rfl]; rfl) (by rw [get_set _ _ _ _ hlt0, if_neg (Ne.symm hp)]; exact hpool.one) (fun j h0 _ => by rw [get_set _ _ _ _ hlt0, if_neg (Ne.symm h0)]) fun j _ _ => hqu.deaf j)
              hc1 (.inl hn2) (.inl (GoT.rely (R := RelyP B0 c T) (fun _ _ _ h h' => RelyP.trans h h') hgp (RelyP.chan (w.at d) hat.chan chan_ne))))
          · -- the sender waits: its message goes into the room
            have hrT := crowd_recv_moves (sl := sl') (P := P) (z := z) hi hcomm hat.chan (by simp) hp hpool.one (hpool.parts0' hp (by rw [offersAt_parked_send, if_pos rfl]))
            rw [finishComm_recv, finishComm_send, no_events, Array.empty_append, hbuf, hhd] at hrT
            generalize hu : (#[{ g := 0, fn := (core g).frame.fn, pos := (core g).frame.place, act := .recv c r cap }, { g := 0, fn := (core g).frame.fn, pos := (core g).frame.place, act := .recvDone c r },
              { g := p, fn := (core gp).frame.fn, pos := (core gp).frame.place, act := .send c (r + (e :: pd').length) }, { g := p, fn := (core gp).frame.fn, pos := (core gp).frame.place, act := .sendDone c (r + (e :: pd').length) }] : Trace) = u at hrT
            have hqu : Quiet u (w.at d).heap.size := quiet_of fun op hop => by
              subst hu
              simp only [List.mem_toArray, List.mem_cons, List.not_mem_nil, or_false] at hop
              rcases hop with rfl | rfl | rfl | rfl <;> exact ⟨rfl, hcs, fun _ _ => rfl⟩
            have ho2 : (t ++ u)[t.size + 2]? = some { g := p, fn := (core gp).frame.fn, pos := (core gp).frame.place, act := .send c (r + (e :: pd').length) } := by subst hu; simp
            have ho1 : (t ++ u)[t.size + 1]? = some { g := 0, fn := (core g).frame.fn, pos := (core g).frame.place, act := .recvDone c r } := by subst hu; simp
            have hc1 := hat.send hPay hcB hx hrows hqu (by omega) ho2 rfl rfl
            have hc2 := Com.recv hPay hcB (e := e) (pd := pd' ++ [⟨x, v, rows⟩]) hc1 ho1 rfl rfl (hqu.heard (by omega) ho1 hat.trace.hears0)
            rw [setChan_twice] at hc2
            have hbuf2 : ((pd' ++ [(⟨x, v, rows⟩ : Ent α)]).map (fun e : Ent α => e.v)).toArray = (pd'.map (·.v)).toArray.push v := by simp
            have hlen2 : r + 1 + (pd' ++ [(⟨x, v, rows⟩ : Ent α)]).length = r + (e :: pd').length + 1 := by simp; omega
            rw [hbuf2, hlen2] at hc2
            have hother : ∀ k, B0 ≤ k → ((w.at d).setChan c cap ((pd'.map (·.v)).toArray.push v) false (r + (e :: pd').length + 1) (r + 1) false).heap[k]? = (w.at d).heap[k]? := fun k hk => chan_other (w.at d) (by omega)
            obtain ⟨n2, hn2⟩ := recv_on (e := e) (xs := (pd' ++ [(⟨x, v, rows⟩ : Ent α)]).map (·.x) ++ xs') (by simpa using hs) (RelyC.chan (w.at d) (cap := cap) (s := r + (e :: pd').length + 1) (r := r + 1) (buf := (pd'.map (·.v)).toArray.push v) (cl := false) (tm := false) hat.chan chan_ne)
              (hPay _ _ _ _ _ he1 fun k hk => hother k (he2 k hk).1) fun k hk => by have h := hc2.sent k (.inl (he2 k hk).2.2.2.1); exact ⟨h.1, h.2.1, h.2.2, (he2 k hk).2.2.2.2⟩
            obtain ⟨n3, hn3⟩ := (sends_iff P B0 c T O Pay xs' _ _ _).1 (hnext _ (RelyP.chan (w.at d) (cap := cap) (s := r + (e :: pd').length + 1) (r := r + 1) (buf := (pd'.map (·.v)).toArray.push v) (cl := false) (tm := false) hat.chan chan_ne))
            refine Res.step (hst.trans hrT) (ihA (2 * xs'.length + (pd' ++ [(⟨x, v, rows⟩ : Ent α)]).length) (by simp at hA ⊢; omega) n2 n3 _ _ _ _ _ sl' _ q (pd' ++ [⟨x, v, rows⟩]) xs' _ _ (r + 1) 1 1 rfl rfl (fun _ => rfl) (fun _ => rfl) (hon.on (hst.trans hrT) (by rw [setChan_size]; exact Nat.le_refl _)) (by simp at hf ⊢; omega)
              (hpool.next (by simp) (by rw [get_set _ _ _ _ (by simpa using hlt0), if_pos rfl]; rfl) (by rw [get_set _ _ _ _ (by simpa using hlt0), if_neg (Ne.symm hp), get_set _ _ _ _ hltp, if_pos rfl]) (fun j h0 h1 => by rw [get_set _ _ _ _ (by simpa using hlt0), if_neg (Ne.symm h0), get_set _ _ _ _ hltp, if_neg (Ne.symm h1)]) fun j _ _ => hqu.deaf j)
              hc2 (.inl hn2) (.inl hn3))
      · -- a step of its own
        have hrT := runT_crowd_go (P := P) (sl := sl') (i := 0) hi (show stepG P (0 == 0) g (w.at d) = _ from hgoes)
        have hc1 := hat.stepC hPay hp hcB hDC g.frame.fn g.frame.place
        have hget := get_woken (P := P) gs (g := g) (g' := g') (w' := w') hlt0 fun j x hj hx => by
          by_cases h1 : j = p
          · subst h1; rw [hpool.one] at hx; obtain rfl := Option.some.inj hx; exact hsp1.woken hc1.chan
          · exact woken_quitsD (hpool.others j x (by omega) h1 hx)
        have hu : ∀ op ∈ MemOp.ofEvents 0 g.frame.fn g.frame.place es, op.g = 0 := fun op hop => by obtain ⟨e, _, rfl⟩ := Go.Conc.mem_ofEvents hop; rfl
        exact Res.step (hst.trans hrT) (iha r' hlt rb (1 + 1 + sumTo gs.size q) _ _ b _ sl' _ q pd xs Got Sent r 1 1 hA (by simp) (fun _ => rfl) (fun _ => rfl) (hon.on (hst.trans hrT) hDC.1.size) hle
          (hpool.next (by simp) (by rw [hget, if_pos rfl]) (by rw [hget, if_neg (Ne.symm hp)]; exact hpool.one) (fun j h0 _ => by rw [hget, if_neg (Ne.symm h0)]) fun j h0 _ => Deaf_other t (Ne.symm h0) _ hu)
          hc1 (.inl hgo') (hsp1.rely hPay hcB hDC.rely))
    · simp [parked] at hg
  · by_cases hip : i = p
    · -- THE SENDER MOVES
      subst hip
      obtain rfl : g = b := by rw [hpool.one] at hi; exact (Option.some.inj hi).symm
      have hi0' : (i == 0) = false := by simp; omega
      rcases hsp with hgo | ⟨_, x, xs', g0, v, z', rows, _, rfl, _⟩
      · rcases hgo.turn (i := i) hi0' hi hst (RelyP.at w d) (fun m' h1 h2 h => hi0 ((hO _ _ m' i hon h1 h2 hmv).1 h)) with hstop | ⟨g', w', es, r', hgoes, hDP, hlt, hgo'⟩
        · have hs := hstop (w.at d) (RelyP.at w d)
          cases xs with
          | nil =>
            -- it closes the channel
            obtain ⟨_, hwake, g₂, nq, hclose, hq⟩ := hs
            have hcl := hclose d cap _ _ _ hat.chan
            have hw3 : ((w.at d).at d) = w.at d := rfl
            rw [hw3] at hcl
            have hrT := runT_crowd_go (P := P) (sl := sl') (i := i) hi (by rw [hi0']; exact hcl)
            have hev : ∀ e ∈ closeEvents c, EvF (w.at d).heap.size e := by
              intro e he
              simp only [closeEvents, List.mem_toArray, List.mem_cons, List.not_mem_nil, or_false] at he
              rcases he with rfl | rfl
              · exact evF_obj _ _ hcs
              · exact evF_obj _ _ hcs
            obtain ⟨e1, e2, e3⟩ := ofEv (g := i) (fn := g.frame.fn) (pos := g.frame.place) hev
            have hu : MemOp.ofEvents i g.frame.fn g.frame.place (closeEvents c) = #[{ g := i, fn := g.frame.fn, pos := g.frame.place, act := .access ⟨.obj c, false, true⟩ }, { g := i, fn := g.frame.fn, pos := g.frame.place, act := .close c }] := by
              rw [ofEvents_eq]; simp [closeEvents, MemAct.ofEvent]
            have hT1 := hat.trace.prod hp e1 (fun op hop a ha hm => by
              rw [hu] at hop
              simp only [List.mem_toArray, List.mem_cons, List.not_mem_nil, or_false] at hop
              rcases hop with rfl | rfl
              · simp only [MemAct.touch?, Option.some.injEq] at ha
                subst ha
                exact ⟨c, rfl, .inl ⟨rfl, hcB⟩⟩
              · cases ha) (e2 t) e3 fun b hb => (hat.sent b hb).1
            have hqd : ∀ g', ∀ op ∈ MemOp.ofEvents i g.frame.fn g.frame.place (closeEvents c), ∀ d, deafStep g' d op = d := by
              intro g' op hop d
              rw [hu] at hop
              simp only [List.mem_toArray, List.mem_cons, List.not_mem_nil, or_false] at hop
              rcases hop with rfl | rfl <;> rfl
            have hsz : (t ++ MemOp.ofEvents i g.frame.fn g.frame.place (closeEvents c)).size = t.size + 2 := by rw [hu]; simp
            have ho : (t ++ MemOp.ofEvents i g.frame.fn g.frame.place (closeEvents c))[t.size + 1]? = some { g := i, fn := g.frame.fn, pos := g.frame.place, act := .close c } := by rw [hu]; simp
            have hh : (t ++ MemOp.ofEvents i g.frame.fn g.frame.place (closeEvents c)).heard (t.size + 1) := ⟨i, g?_of ho, by rw [deaf_quiet (hqd i) 1 (by rw [hu]; simp)]; exact hat.trace.hearsp⟩
            have hsh := hT1.shut ho (by omega) rfl rfl hh
            have hc1 := (hat.trace' hT1).close hPay hcB
            generalize hW : (w.at d).setChan c cap (pd.map (·.v)).toArray true (r + pd.length) r false = W at hrT hc1
            have hRC : RelyC B0 c T Got (w.at d) W := by subst hW; exact RelyC.chan (w.at d) hat.chan chan_ne
            have hWc : W.heap[c]? = some (.chan cap (pd.map (·.v)).toArray true (r + pd.length) r false) := by subst hW; exact chan_self _ hcs
            have hget := get_map gs (woken P g g₂ W) g₂ hltp
            have hwk : ∀ o, woken P g g₂ W o = o.again W := by
              intro o; unfold Go.Conc.woken; rcases hq.status with h | h <;> simp [hwake, h]
            have hA' : ∃ n2, GoT P true (RelyC B0 c T Got) (DC B0 T Got) O (StopC P B0 c T O Pay z Fin (pd.map (·.x)) Got) n2 (woken P g g₂ W a) W := by
              rcases hsc1 with hga | ⟨hpd, ga, rfl, hsa'⟩
              · rw [woken_run (hga.running (fun _ _ => StopC.running) _ (RelyC.refl _))]
                rw [List.append_nil] at hga
                exact ⟨_, GoT.rely (R := RelyC B0 c T Got) (fun _ _ _ h h' => RelyC.trans h h') hga hRC⟩
              · rw [hwk, again_recv_closed hWc]
                subst hpd
                exact ⟨.lim fun _ => .zero, .inl fun w₁ h₁ => (hsa' w₁ (hRC.trans h₁)).again⟩
            obtain ⟨n2, hn2⟩ := hA'
            refine Res.step (hst.trans hrT) (phase_shut hO hPay hp hcB _ n2 _ _ (woken P g g₂ W a) g₂ _ sl' _ q pd Got Sent cap r nq rfl rfl (hon.on (hst.trans hrT) (by rw [← hW, setChan_size]; exact Nat.le_refl _)) ?_ hc1 hsh hn2 hq)
            refine hpool.next (by simp) (by rw [hget, if_neg hi0, hpool.zero]; rfl) (by rw [hget, if_pos rfl]) (fun j h0 h1 => ?_) fun j _ h1 => Deaf_other t (Ne.symm h1) _ e1
            rw [hget, if_neg (Ne.symm h1)]
            cases hx : gs[j]? with
            | none => rfl
            | some y => rw [Option.map_some, woken_quitsD (hpool.others j y (by omega) h1 hx)]
          | cons x xs' =>
            obtain ⟨_, v, z', rows, hcommd, hx, hrows, hnext⟩ := hs
            have hcomm : stepG P (i == 0) g (w.at d) = .comm (core g) #[scase c v z'] true .send (w.at d) #[] := by rw [hi0']; exact hcommd d
            rcases offers_C hsc1 with ⟨harun, hoff⟩ | ⟨rfl, ga, rfl, hsa'⟩
            · by_cases hfull : pd.length = cap
              · -- the buffer is full: it waits
                have hrT := crowd_waits (sl := sl') hi hcomm fun cc hcc => by
                  simp only [List.mem_toArray, List.mem_cons, List.not_mem_nil, or_false] at hcc
                  subst hcc
                  exact ways_send_full hat.chan (by simp [hfull]) (hpool.partsp hp (hoff false))
                rw [no_events] at hrT
                refine Res.step (hst.trans hrT) ?_
                rw [Array.append_empty]
                exact ihB (ka + 0 + sumTo gs.size q) (by have := hkb hg; omega) _ a _ _ sl' _ q pd (x :: xs') Got Sent r ka 0 hA (by simp) hka (fun h => by cases h) (hon.on (hst.trans hrT) (Nat.le_refl _)) hle
                  (hpool.next (by simp) (by rw [get_set _ _ _ _ hltp, if_neg hi0]; exact hpool.zero) (by rw [get_set _ _ _ _ hltp, if_pos rfl]) (fun j _ h1 => by rw [get_set _ _ _ _ hltp, if_neg (Ne.symm h1)]) fun j _ _ => rfl)
                  hat hsc1 (.inr ⟨hfull, x, xs', g, v, z', rows, rfl, rfl, hx, hrows, hnext⟩)
              · -- there is room
                have hrT := crowd_send_room (sl := sl') hi hcomm hat.chan (by simp; omega) (hpool.partsp hp (hoff false))
                rw [finishComm_send, no_events, Array.empty_append] at hrT
                generalize hu : (#[{ g := i, fn := (core g).frame.fn, pos := (core g).frame.place, act := .send c (r + pd.length) }, { g := i, fn := (core g).frame.fn, pos := (core g).frame.place, act := .sendDone c (r + pd.length) }] : Trace) = u at hrT
                have hqu : Quiet u (w.at d).heap.size := quiet_of fun op hop => by
                  subst hu
                  simp only [List.mem_toArray, List.mem_cons, List.not_mem_nil, or_false] at hop
                  rcases hop with rfl | rfl <;> exact ⟨rfl, hcs, fun _ _ => rfl⟩
                have ho : (t ++ u)[t.size]? = some { g := i, fn := (core g).frame.fn, pos := (core g).frame.place, act := .send c (r + pd.length) } := by subst hu; simp
                have hc1 := hat.send hPay hcB hx hrows hqu (Nat.le_refl _) ho rfl rfl
                obtain ⟨n3, hn3⟩ := (sends_iff P B0 c T O Pay xs' _ _ _).1 (hnext _ (RelyP.chan (w.at d) (cap := cap) (s := r + pd.length + 1) (r := r) (buf := (pd.map (·.v)).toArray.push v) (cl := false) (tm := false) hat.chan chan_ne))
                have hsc2 : SitC P B0 c T O Pay z Fin (pd ++ [⟨x, v, rows⟩]) xs' Got ra a ((w.at d).setChan c cap ((pd.map (·.v)).toArray.push v) false (r + pd.length + 1) r false) := by
                  have hrl : RelyC B0 c T Got (w.at d) ((w.at d).setChan c cap ((pd.map (·.v)).toArray.push v) false (r + pd.length + 1) r false) := RelyC.chan (w.at d) hat.chan chan_ne
                  rcases hsc1 with hga | ⟨_, ga, rfl, _⟩
                  · refine .inl ?_
                    have : ((pd ++ [(⟨x, v, rows⟩ : Ent α)]).map (·.x)) ++ xs' = pd.map (·.x) ++ x :: xs' := by simp
                    rw [this]
                    exact GoT.rely (R := RelyC B0 c T Got) (fun _ _ _ h h' => RelyC.trans h h') hga hrl
                  · simp [parked] at harun
                exact Res.step (hst.trans hrT) (ihA (2 * xs'.length + (pd ++ [(⟨x, v, rows⟩ : Ent α)]).length) (by simp at hA ⊢; omega) ra n3 _ _ a _ _ sl' _ q (pd ++ [⟨x, v, rows⟩]) xs' Got _ r 1 1 rfl rfl (fun _ => rfl) (fun _ => rfl) (hon.on (hst.trans hrT) (by rw [setChan_size]; exact Nat.le_refl _)) (by simp; omega)
                  (hpool.next (by simp) (by rw [get_set _ _ _ _ hltp, if_neg hi0]; exact hpool.zero) (by rw [get_set _ _ _ _ hltp, if_pos rfl]) (fun j _ h1 => by rw [get_set _ _ _ _ hltp, if_neg (Ne.symm h1)]) fun j _ _ => hqu.deaf j)
                  hc1 hsc2 (.inl hn3))
            · -- the receiver waits: both are served in this one step
              have hrT := crowd_send_meets (sl := sl') (P := P) hi hcomm (by simpa using hat.chan) (Ne.symm hi0) hpool.zero (hpool.partsp' hp (by rw [offersAt_parked_recv, if_pos rfl]))
              rw [finishComm_send, finishComm_recv, no_events, Array.empty_append] at hrT
              generalize hu : (#[{ g := i, fn := (core g).frame.fn, pos := (core g).frame.place, act := .send c r }, { g := 0, fn := (core ga).frame.fn, pos := (core ga).frame.place, act := .recv c r cap },
                { g := i, fn := (core g).frame.fn, pos := (core g).frame.place, act := .sendDone c r }, { g := 0, fn := (core ga).frame.fn, pos := (core ga).frame.place, act := .recvDone c r }] : Trace) = u at hrT
              have hqu : Quiet u (w.at d).heap.size := quiet_of fun op hop => by
                subst hu
                simp only [List.mem_toArray, List.mem_cons, List.not_mem_nil, or_false] at hop
                rcases hop with rfl | rfl | rfl | rfl <;> exact ⟨rfl, hcs, fun _ _ => rfl⟩
              have ho0 : (t ++ u)[t.size]? = some { g := i, fn := (core g).frame.fn, pos := (core g).frame.place, act := .send c r } := by subst hu; simp
              have ho3 : (t ++ u)[t.size + 3]? = some { g := 0, fn := (core ga).frame.fn, pos := (core ga).frame.place, act := .recvDone c r } := by subst hu; simp
              have hc1 := hat.send hPay hcB hx hrows hqu (Nat.le_refl _) ho0 rfl rfl
              have hc2 := Com.recv hPay hcB (e := ⟨x, v, rows⟩) (pd := []) hc1 ho3 rfl rfl (hqu.heard (by omega) ho3 hat.trace.hears0)
              rw [setChan_twice] at hc2
              simp only [List.map_nil, List.length_nil, Nat.add_zero] at hc2 hrT
              obtain ⟨n2, hn2⟩ := recv_on (e := (⟨x, v, rows⟩ : Ent α)) (xs := xs') (hsa' (w.at d) (RelyC.refl _)) (RelyC.chan (w.at d) (cap := cap) (s := r + 1) (r := r + 1) (buf := #[]) (cl := false) (tm := false) hat.chan chan_ne)
                (hPay _ _ _ _ _ hx fun k hk => chan_other (w.at d) (by have := (hrows k hk).1; omega)) fun k hk => by have h := hc2.sent k (.inr hk); exact ⟨h.1, h.2.1, h.2.2, fun y => (hrows k hk).2.2.2 (hat.trace.gotSent k y)⟩
              obtain ⟨n3, hn3⟩ := (sends_iff P B0 c T O Pay xs' _ _ _).1 (hnext _ (RelyP.chan (w.at d) (cap := cap) (s := r + 1) (r := r + 1) (buf := #[]) (cl := false) (tm := false) hat.chan chan_ne))
              exact Res.step (hst.trans hrT) (ihA (2 * xs'.length + 0) (by simp at hA; omega) n2 n3 _ _ _ _ _ sl' _ q [] xs' _ _ (r + 1) 1 1 rfl rfl (fun _ => rfl) (fun _ => rfl) (hon.on (hst.trans hrT) (by rw [setChan_size]; exact Nat.le_refl _)) (by simp)
                (hpool.next (by simp) (by rw [get_set _ _ _ _ (by simpa using hltp), if_neg hi0, get_set _ _ _ _ hlt0, if_pos rfl]; rfl) (by rw [get_set _ _ _ _ (by simpa using hltp), if_pos rfl]) (fun j h0 h1 => by rw [get_set _ _ _ _ (by simpa using hltp), if_neg (Ne.symm h1), get_set _ _ _ _ hlt0, if_neg (Ne.symm h0)]) fun j _ _ => hqu.deaf j)
                hc2 (.inl hn2) (.inl hn3))
        · -- a step of its own
          have hrT := runT_crowd_go (P := P) (sl := sl') (i := i) hi (by rw [hi0']; exact hgoes)
          have hc1 := hat.stepP hPay hp hcB hDP g.frame.fn g.frame.place
          have hget := get_woken (P := P) gs (g := g) (g' := g') (w' := w') hltp fun j x hj hx => by
            by_cases h1 : j = 0
            · subst h1; rw [hpool.zero] at hx; obtain rfl := Option.some.inj hx; exact hsc1.woken hc1.chan
            · exact woken_quitsD (hpool.others j x (by omega) hj hx)
          have hu : ∀ op ∈ MemOp.ofEvents i g.frame.fn g.frame.place es, op.g = i := fun op hop => by obtain ⟨e, _, rfl⟩ := Go.Conc.mem_ofEvents hop; rfl
          exact Res.step (hst.trans hrT) (ihb r' hlt (1 + 1 + sumTo gs.size q) _ a _ _ sl' _ q pd xs Got Sent r 1 1 hA (by simp) (fun _ => rfl) (fun _ => rfl) (hon.on (hst.trans hrT) hDP.1.size) hle
            (hpool.next (by simp) (by rw [hget, if_neg hi0]; exact hpool.zero) (by rw [hget, if_pos rfl]) (fun j _ h1 => by rw [hget, if_neg (Ne.symm h1)]) fun j _ h1 => Deaf_other t (Ne.symm h1) _ hu)
            hc1 (hsc1.rely (hDP.rely hat.trace.gotSent)) (.inl hgo'))
      · simp [parked] at hg
    · -- a leaver slips
      have hq := hpool.others i g (by omega) hip hi
      have hi0' : (i == 0) = false := by simp; omega
      have hlt : i < gs.size := (Array.getElem?_eq_some_iff.1 hi).1
      cases hqi : q i with
      | zero => rw [hqi] at hq; rw [hq.1] at hg; cases hg
      | succ k =>
        rw [hqi] at hq
        rcases hq with ⟨hfin, _⟩ | ⟨_, g', es, hm, hstp, hq'⟩
        · rw [hfin] at hg; cases hg
        have hrT := runT_crowd_go (P := P) (sl := sl') (i := i) hi (by rw [hi0']; exact hstp (w.at d))
        have hsum : sumTo gs.size (upd q i k) + (k + 1) = sumTo gs.size q + k := by
          have := sumTo_upd q k id hlt
          simpa [hqi] using this
        exact Res.step (hst.trans hrT) (ihB (ka + kb + sumTo gs.size (upd q i k)) (by omega) _ a b _ sl' _ (upd q i k) pd xs Got Sent r ka kb hA (by simp) hka hkb (hon.on (hst.trans hrT) (Nat.le_refl _)) hle
          (slip hpool hi hi0 hip (hsc1.woken hat.chan) (hsp1.woken hat.chan) hm hq') (hat.trace' (mute_trace hat.trace hi0 hip hm)) hsc1 hsp1)
end
end Go.Proofs.Ytlkhknoaifbajaa

/- THE GO STATEMENT, AND THE END: from a frame to a frame over a sender and a receiver; from the call's entry to the run's end. -/
namespace Go.Proofs.Ytlkhknoaifbajaa
open Go Go.Conc
open Go.ConcN (sumTo upd sumTo_upd upd_ne upd_same)
set_option linter.unusedVariables false
set_option linter.unusedSimpArgs false

section
variable {P : Program}

/-- Goroutine 0's turn comes, whatever the others' leaving and the scheduler draw ahead of it. -/
theorem ToM.turn {a : Goroutine} {w : World} {Post : Goroutine → World → Prop} (hrun : a.status = .running)
    (h : ∀ d gs sl t q, Frm P a (w.at d) gs t q → ∃ gs1 w1 ops, runT P (crowd gs (w.at d) sl) 0 = (.next (crowd gs1 w1 sl), ops) ∧ Res P Post gs1 w1 sl (t ++ ops)) : ToM P a w Post := by
  intro gs sl t q hf
  obtain ⟨M, hM⟩ : ∃ M, sumTo gs.size q ≤ M := ⟨_, Nat.le_refl _⟩
  induction M generalizing gs sl t q w with
  | zero | succ M ih =>
    all_goals
    have haw : ∀ g ∈ gs, awake g := by
      intro g hg
      obtain ⟨i, hi, rfl⟩ := Array.mem_iff_getElem.1 hg
      rcases Nat.eq_zero_or_pos i with rfl | hpos
      · have : gs[0] = a := by simpa [Array.getElem?_eq_getElem hi] using hf.zero
        rw [this]; exact awake_of (.inl hrun)
      · exact awake_of ((hf.leave.old i _ hpos (Array.getElem?_eq_getElem hi)).status.elim .inl fun x => .inr (.inr x))
    obtain ⟨i, g, d, sl', hi, hg, hst⟩ := crowd_pick (P := P) (w := w) (sl := sl) haw ⟨0, a, hf.zero, hrun⟩
    rcases Nat.eq_zero_or_pos i with rfl | hpos
    · obtain ⟨gs1, w1, ops, hrT, hres⟩ := h d gs sl' t q ⟨hf.zero, hf.leave, hf.past⟩
      exact Res.step (hst.trans hrT) hres
    · have hq := hf.leave.old i g hpos hi
      have hi0 : (i == 0) = false := by simp; omega
      have hlt : i < gs.size := (Array.getElem?_eq_some_iff.1 hi).1
      cases hqi : q i with
      | zero => rw [hqi] at hq; rw [hq.1] at hg; cases hg
      | succ k =>
        rw [hqi] at hq
        rcases hq with ⟨hfin, _⟩ | ⟨_, g', es, hm, hstp, hq'⟩
        · rw [hfin] at hg; cases hg
        have hrunT := runT_crowd_go (P := P) (sl := sl') (i := i) hi (by rw [hi0]; exact hstp (w.at d))
        have hsz : ((gs.map (woken P g g' (w.at d))).setIfInBounds i g').size = gs.size := by simp
        have hsum : sumTo gs.size (upd q i k) + (k + 1) = sumTo gs.size q + k := by
          have := sumTo_upd q k id hlt
          simpa [hqi] using this
        have hf' : Frm P a (w.at d) ((gs.map (woken P g g' (w.at d))).setIfInBounds i g') (t ++ MemOp.ofEvents i g.frame.fn g.frame.place es) (upd q i k) := by
          refine ⟨?_, ⟨fun j x hj hx => ?_, fun j hj => ?_⟩, hf.past.mute (by omega) hm⟩
          · have hne : i ≠ 0 := by omega
            rw [Array.getElem?_setIfInBounds_ne hne, Array.getElem?_map, hf.zero]
            simp [woken_run hrun]
          · by_cases hji : i = j
            · subst hji
              rw [Array.getElem?_setIfInBounds_self_of_lt (by simpa using hlt)] at hx
              obtain rfl := Option.some.inj hx
              rw [upd_same, Deaf_own]
              exact hq'
            · rw [Array.getElem?_setIfInBounds_ne hji, Array.getElem?_map] at hx
              obtain ⟨y, hy, rfl⟩ := Option.map_eq_some_iff.1 hx
              have hqj := hf.leave.old j y hj hy
              rw [woken_quitsD hqj, upd_ne q k (Ne.symm hji), Deaf_other t hji _ (fun op hop => by obtain ⟨e, _, rfl⟩ := Go.Conc.mem_ofEvents hop; rfl)]
              exact hqj
          · rw [Deaf_other t (g' := i) (by simp at hj; omega) _ (fun op hop => by obtain ⟨e, _, rfl⟩ := Go.Conc.mem_ofEvents hop; rfl)]
            exact hf.leave.above j (by simpa using hj)
        first
        | (exfalso; omega)
        | exact Res.step (hst.trans hrunT) (ih (w := w.at d) (fun d' => h d') _ sl' _ _ hf' (by rw [hsz]; omega))

theorem Res.toM {a : Goroutine} {w : World} {Mid Post : Goroutine → World → Prop} (h : ToM P a w Mid) (h' : ∀ a' w', Mid a' w' → ToM P a' w' Post) : ToM P a w Post := h.trans h'

/-- ████ THE GO STATEMENT. Goroutine 0 receives, the child sends. ████ -/
theorem toM_fork {c : Nat} {T : (Nat → Prop) → Cls} {α : Type} {Pay : α → Value → (Nat → Prop) → World → Prop} {z : Value} {Fin : Goroutine → World → Prop} {a a' child : Goroutine} {w : World} {cap : Nat} {xs : List α}
    (hPay : PayOk Pay) (hrun : a.status = .running) (hcap : 0 < cap) (hsp : ∀ d, stepG P true a (w.at d) = .spawn a' child (w.at d) #[]) (hc : w.heap[c]? = some (.chan cap #[] false 0 0 false))
    (hA : ∀ O d, Recvs P w.heap.size c (T O) O Pay z Fin xs (fun _ => False) a' (w.at d)) (hB : ∀ O d, Sends P w.heap.size c (T O) O Pay xs (fun _ => False) child (w.at d)) : ToM P a w Fin := by
  refine ToM.turn hrun fun d gs sl t q hf => ?_
  have hrT := runT_crowd_spawn (P := P) (sl := sl) (i := 0) hf.zero (show stepG P (0 == 0) a (w.at d) = _ from hsp d)
  have hpos : 0 < gs.size := (Array.getElem?_eq_some_iff.1 hf.zero).1
  have hcl : c < w.heap.size := heap_low hc
  refine ⟨_, _, _, hrT, ?_⟩
  generalize hm0 : crowd _ (w.at d) sl = m0
  obtain ⟨na, hna⟩ := (recvs_iff P w.heap.size c (T (Own0 P m0)) (Own0 P m0) Pay z Fin xs _ _ _).1 (hA (Own0 P m0) d)
  obtain ⟨nb, hnb⟩ := (sends_iff P w.heap.size c (T (Own0 P m0)) (Own0 P m0) Pay xs _ _ _).1 (hB (Own0 P m0) d)
  have hops : ((MemOp.ofEvents 0 a.frame.fn a.frame.place #[]).push { g := 0, fn := a.frame.fn, pos := a.frame.place, act := .go gs.size } |>.push { g := gs.size, fn := child.frame.fn, pos := a.frame.place, act := .start }) =
      #[{ g := 0, fn := a.frame.fn, pos := a.frame.place, act := .go gs.size }, { g := gs.size, fn := child.frame.fn, pos := a.frame.place, act := .start }] := by
    rw [no_events]; rfl
  rw [hops]
  have hq : ∀ g, ∀ op ∈ (#[{ g := 0, fn := a.frame.fn, pos := a.frame.place, act := .go gs.size }, { g := gs.size, fn := child.frame.fn, pos := a.frame.place, act := .start }] : Trace), ∀ d, deafStep g d op = d := by
    intro g op hop d
    simp only [List.mem_toArray, List.mem_cons, List.not_mem_nil, or_false] at hop
    rcases hop with rfl | rfl <;> rfl
  have hT := Two.hire (B0 := w.heap.size) (c := c) (C := isC (T (Own0 P m0)) (w.at d)) (p := gs.size) hf.past (by omega) (hf.leave.above gs.size (Nat.le_refl _)) a.frame.fn a.frame.place child.frame.fn
  have hpool : Pool P gs.size ((gs.setIfInBounds 0 a').push child) a' child (t ++ #[{ g := 0, fn := a.frame.fn, pos := a.frame.place, act := .go gs.size }, { g := gs.size, fn := child.frame.fn, pos := a.frame.place, act := .start }]) q := by
    refine ⟨?_, ?_, fun j x hj hjp hx => ?_, fun j hj => ?_⟩
    · rw [Array.getElem?_push_lt (by simpa using hpos)]
      simp
    · rw [Array.getElem?_push]; simp
    · have hjl : j < gs.size := by
        have := (Array.getElem?_eq_some_iff.1 hx).1
        simp at this
        omega
      rw [Array.getElem?_push_lt (by simpa using hjl)] at hx
      have hx' : gs[j]? = some x := by
        have : (gs.setIfInBounds 0 a')[j]? = some x := by
          rw [Array.getElem?_eq_getElem (by simpa using hjl)]; exact hx
        rwa [Array.getElem?_setIfInBounds_ne (by omega)] at this
      rw [Deaf_quiet (hq j)]
      exact hf.leave.old j x hj hx'
    · rw [Deaf_quiet (hq j)]
      exact hf.leave.above j (by simp at hj; omega)
  exact phase_open (told P m0) hPay (by omega) hcl hcap _ na nb _ _ a' child (w.at d) sl _ q [] xs (fun _ => False) (fun _ => False) 0 1 1 rfl rfl (fun _ => rfl) (fun _ => rfl) (by rw [hm0]; exact onRun_start m0) (Nat.zero_le _) hpool
    ⟨hc, by simp, by simp, fun b hb => hb.elim, hT⟩ (.inl hna) (.inl hnb)

/-- ████ FROM THE CALL's ENTRY TO THE END OF THE RUN. ████ -/
theorem good_of_toM {a : Goroutine} {w : World} {Post : Value → World → Prop}
    (h : ToM P a w fun a' w' => a'.status = .running ∧ ∀ d, ∃ v es, stepG P true a' (w'.at d) = .ended (.done v) (w'.at d) es ∧ (∀ e ∈ es, EvF w'.heap.size e) ∧ Post v (w'.at d)) :
    ∃ N last o w' t', runNT P (N + 1) (solo a w) #[] = (.ended o w', t') ∧ runN P N (solo a w) = .next last ∧ step P last = .ended o w' ∧ Good P Post last o w' t' := by
  obtain ⟨N, gs, a', w', sl, t, q, hr, ⟨hrun, hend⟩, hf⟩ := h #[a] none #[] (fun _ => 0) ⟨rfl, leavers_one P a, past_nil.mono (Nat.zero_le _)⟩
  have hG : Goes P true AtRel (fun _ _ es => ∀ e ∈ es, EvL NoS w'.heap.size e) (AtEnd P NoS w'.heap.size Post) 0 a' w' := by
    rintro w1 ⟨d, rfl⟩
    obtain ⟨v, es, h1, h2, h3⟩ := hend d
    exact ⟨hrun, v, es, h1, fun e he => evL_of (h2 e he), h3⟩
  obtain ⟨M, last, o, w2, t2, h1, h2, h3, h4⟩ := beside_ends (sl := sl) (fun _ _ _ hd => hd) hf.zero hf.leave hf.past hG
  refine ⟨N + M, last, o, w2, t2, ?_, ?_, h3, h4⟩
  · rw [Nat.add_assoc, runNT_add, show solo a w = crowd #[a] w none from rfl, hr]; exact h1
  · rw [runN_add, show solo a w = crowd #[a] w none from rfl, ← runNT_fst P N _ #[], hr]; exact h2
end
end Go.Proofs.Ytlkhknoaifbajaa

/- CODE IN COMPANY THAT SENDS, RECEIVES AND MAKES BLOCKS: one judgement for each side. What is sent or received stands beside the judgement. -/
namespace Go.Proofs.Ytlkhknoaifbajaa
set_option maxRecDepth 100000
open Go.Conc Go.RowKit
set_option linter.unusedVariables false
set_option linter.unusedSimpArgs false
set_option maxRecDepth 100000

/-- Who moves: what it relies on and guarantees (the index changes with each message), which numbers its blocks bear, and the stops that are to come. -/
structure Side (α σ : Type) where
  main : Bool
  R : σ → World → World → Prop
  D : σ → World → World → Array Event → Prop
  Own : Nat → Prop
  Stop : List α → σ → Goroutine → World → Prop
structure SideOk {α σ : Type} (S : Side α σ) : Prop where
  refl : ∀ γ w, S.R γ w w
  terms : ∀ γ, Terms (S.R γ) (S.D γ)

section
variable (P : Program) {α σ : Type} (S : Side α σ)
def GoG (zs : List α) (γ : σ) (g : Goroutine) (w : World) : Prop := GoI P S.main (S.R γ) (S.D γ) S.Own (S.Stop zs γ) g w
def AftG (zs : List α) (γ : σ) (b : Frame) (k : List Item) (cs : List Frame) : Exit → Act → World → Prop
  | .normal, a, w => GoG P S zs γ (G (b.at a k) cs) w
  | .exit id, a, w => ∃ k', exitTo id k = some k' ∧ GoG P S zs γ (G (b.at a k') cs) w
  | .ret, a, w => ∀ todo, GoG P S zs γ (G { b.at a todo with mode := .returning } cs) w
  | _, _, _ => False
/-- ████ THE JUDGEMENT ████: these items send (receive) xs and are left by Q. -/
def ItG (fn : FuncId) (its : List Item) (xs : List α) (γ : σ) (Q : Exit → Act → World → σ → Prop) (a : Act) (w : World) : Prop :=
  ∀ (b : Frame) (k : List Item) (cs : List Frame) (ys : List α), b.fn = fn → b.kind ≠ .early →
    (∀ e a' w' γ', Q e a' w' γ' → AftG P S ys γ' b k cs e a' w') → GoG P S (xs ++ ys) γ (G (b.at a (its ++ k)) cs) w
def WG (fn : FuncId) (x : Code) (xs : List α) (γ : σ) (Q : Exit → Act → World → σ → Prop) (a : Act) (w : World) : Prop := ItG P S fn [.code x] xs γ Q a w
def OG (fn : FuncId) (ops : Array Oper) (todo : List Nat) (xs : List α) (γ : σ) (Q : Exit → Act → World → σ → Prop) (a : Act) (w : World) : Prop := ItG P S fn [.inRegion ops todo] xs γ Q a w
end

section
variable {P : Program} {α σ : Type} {S : Side α σ} {fn : FuncId} {xs xs' : List α} {γ : σ} {Q Q' : Exit → Act → World → σ → Prop} {a : Act} {w : World}
theorem GoI.stepG {main : Bool} {R : World → World → Prop} {D : World → World → Array Event → Prop} {Own : Nat → Prop} {Stop : Goroutine → World → Prop} {g : Goroutine} (hs : g.status = .running)
    (h : ∀ w₁, R w w₁ → (Go.stepG P main g w₁).goes fun g' w' es => D w₁ w' es ∧ GoI P main R D Own Stop g' w') : GoI P main R D Own Stop g w :=
  GoI.step hs fun w₁ h₁ => by
    obtain ⟨g', w', es, h1, h2⟩ := goes_elim (h w₁ h₁)
    exact ⟨g', w', es, h1, h2⟩
theorem GoI.makeG {main : Bool} {R : World → World → Prop} {D : World → World → Array Event → Prop} {Own : Nat → Prop} {Stop : Goroutine → World → Prop} {g : Goroutine} (hs : g.status = .running)
    (h : ∀ w₁, R w w₁ → (Go.stepG P main g w₁).goes fun g' w' es => w'.heap.size = w₁.heap.size + 1 ∧ (Own w₁.heap.size → D w₁ w' es ∧ GoI P main R D Own Stop g' w')) : GoI P main R D Own Stop g w :=
  GoI.make hs fun w₁ h₁ => by
    obtain ⟨g', w', es, h1, h2⟩ := goes_elim (h w₁ h₁)
    exact ⟨g', w', es, h1, h2⟩
theorem GoG.rely (ok : SideOk S) {zs : List α} {g : Goroutine} {w₁ : World} (h : GoG P S zs γ g w) (r : S.R γ w w₁) : GoG P S zs γ g w₁ := GoI.rely (ok.terms γ).trans h r
theorem ItG.rely (ok : SideOk S) {its : List Item} {w₁ : World} (h : ItG P S fn its xs γ Q a w) (r : S.R γ w w₁) : ItG P S fn its xs γ Q a w₁ := fun b k cs ys hb hk hc => (h b k cs ys hb hk hc).rely ok r
theorem ItG.mono {its : List Item} (h : ItG P S fn its xs γ Q a w) (hq : ∀ e a w γ', Q e a w γ' → Q' e a w γ') : ItG P S fn its xs γ Q' a w := fun b k cs ys hb hk hc => h b k cs ys hb hk fun e a' w' γ' q => hc e a' w' γ' (hq e a' w' γ' q)
theorem aftG_push {zs : List α} {b : Frame} {x : Item} {k : List Item} {cs : List Frame} {e : Exit} (hx : x.plain = true) (he : e ≠ .normal) (h : AftG P S zs γ b k cs e a w) : AftG P S zs γ b (x :: k) cs e a w := by
  cases e with
  | normal => exact absurd rfl he
  | exit id => obtain ⟨k', hk, hg⟩ := h; exact ⟨k', by cases x <;> simp_all [exitTo, Item.plain], hg⟩
  | ret => exact h
  | goto l => exact h
  | panic ch => exact h
  | outgrown => exact h
/-- Behind a piece of the library's judgement. -/
theorem after_of_aftG (ok : SideOk S) {zs : List α} {b : Frame} {k : List Item} {cs : List Frame} {e : Exit} (h : AftG P S zs γ b k cs e a w) : After P S.main (S.R γ) (S.D γ) (fun g w => GoG P S zs γ g w) 0 b k cs e a w := by
  cases e with
  | normal => exact fun w₁ h₁ => GoG.rely ok h h₁
  | exit id => obtain ⟨k', hk, hg⟩ := h; exact ⟨k', hk, fun w₁ h₁ => GoG.rely ok hg h₁⟩
  | ret => exact fun todo w₁ h₁ => GoG.rely ok (h todo) h₁
  | goto l => exact h
  | panic ch => exact h
  | outgrown => exact h
/-- Code that sends, receives and makes nothing: by the library's words. -/
theorem g_of_wpC (ok : SideOk S) {x : Code} {n : Nat} (h : x.wpC P S.main (S.R γ) (S.D γ) fn n (fun e a w => Q e a w γ) a w) : WG P S fn x [] γ Q a w :=
  fun b k cs ys hb hk hc => GoI.of_goes (ok.refl γ) (h b k cs (fun g w => GoG P S ys γ g w) 0 hb hk fun e a' w' q => after_of_aftG ok (hc e a' w' γ q))
theorem g_of_opsC (ok : SideOk S) {ops : Array Oper} {todo : List Nat} {n : Nat} (h : OpsC P S.main (S.R γ) (S.D γ) fn ops todo n (fun e a w => Q e a w γ) a w) : OG P S fn ops todo [] γ Q a w :=
  fun b k cs ys hb hk hc => GoI.of_goes (ok.refl γ) (h b k cs (fun g w => GoG P S ys γ g w) 0 hb hk fun e a' w' q => after_of_aftG ok (hc e a' w' γ q))
/-- What is asked between two pieces: the second follows, or the way out is another and nothing more is sent. -/
def ThenS {α σ : Type} (xs' : List α) (F : Act → World → σ → Prop) (Q : Exit → Act → World → σ → Prop) : Exit → Act → World → σ → Prop
  | .normal, a, w, γ => F a w γ
  | e, a, w, γ => xs' = [] ∧ Q e a w γ
theorem g_seq (ok : SideOk S) {x y : Code} (h : WG P S fn x xs γ (ThenS xs' (fun a' w' γ' => WG P S fn y xs' γ' Q a' w') Q) a w) : WG P S fn (.seq x y) (xs ++ xs') γ Q a w := by
  intro b k cs ys hb hk hc
  have hx : GoG P S (xs ++ (xs' ++ ys)) γ (G (b.at a ([.code x] ++ (.code y :: k))) cs) w := by
    refine h b (.code y :: k) cs (xs' ++ ys) hb hk fun e a' w' γ' q => ?_
    cases e with
    | normal => exact q b k cs ys hb hk hc
    | exit id => obtain ⟨rfl, q⟩ := q; exact aftG_push rfl (by simp) (hc _ _ _ _ q)
    | ret => obtain ⟨rfl, q⟩ := q; exact aftG_push (x := .code y) rfl (by simp) (hc _ _ _ _ q)
    | goto l => obtain ⟨rfl, q⟩ := q; exact hc _ _ _ _ q
    | panic ch => obtain ⟨rfl, q⟩ := q; exact hc _ _ _ _ q
    | outgrown => obtain ⟨rfl, q⟩ := q; exact hc _ _ _ _ q
  rw [List.append_assoc]
  exact GoI.stepG rfl fun w₁ h₁ => by simp only [List.cons_append, List.nil_append]; rw [stepG_seq]; exact ⟨(ok.terms γ).idle _, GoG.rely ok hx h₁⟩
theorem g_cond (ok : SideOk S) {o : Operand} {x y : Code} {t : Bool} (hc : a.eval o = .bool t) (h : WG P S fn (if t then x else y) xs γ Q a w) : WG P S fn (.cond o x y) xs γ Q a w := by
  intro b k cs ys hb hk hq
  exact GoI.stepG rfl fun w₁ h₁ => by simp only [List.cons_append, List.nil_append]; rw [stepG_cond hc]; exact ⟨(ok.terms γ).idle _, GoG.rely ok (h b k cs ys hb hk hq) h₁⟩
theorem g_region (ok : SideOk S) {id : Nat} {ops : Array Oper} (h : OG P S fn ops (List.range ops.size) xs γ Q a w) : WG P S fn (.region id ops false) xs γ Q a w := by
  intro b k cs ys hb hk hq
  exact GoI.stepG rfl fun w₁ h₁ => by simp only [List.cons_append, List.nil_append]; rw [stepG_region]; exact ⟨(ok.terms γ).idle _, GoG.rely ok (h b k cs ys hb hk hq) h₁⟩
theorem g_nil (ok : SideOk S) {ops : Array Oper} (h : Q .normal a w γ) : OG P S fn ops [] [] γ Q a w := by
  intro b k cs ys hb hk hq
  exact GoI.stepG rfl fun w₁ h₁ => by simp only [List.cons_append, List.nil_append]; rw [stepG_region_end]; exact ⟨(ok.terms γ).idle _, GoG.rely ok (hq _ _ _ _ h) h₁⟩
theorem g_cons {ops : Array Oper} {i : Nat} {rest : List Nat} {o : Oper} (ho : ops[i]? = some o) (hw : Region.wanted o (yielded ops a.tmps) = true)
    (h : ∀ w₁, S.R γ w w₁ → uponK o a (fun a' w' => S.D γ w₁ w' (listed P fn a o w₁) ∧ OG P S fn ops rest xs γ Q a' w') ((execOp a.eval o).run P w₁)) : OG P S fn ops (i :: rest) xs γ Q a w := by
  intro b k cs ys hb hk hc
  refine GoI.stepG rfl fun w₁ h₁ => goes_oper ho hw hk ?_
  have := h w₁ h₁
  revert this
  cases (execOp a.eval o).run P w₁ with
  | ok x w' => cases x <;> first | exact fun ⟨d, g⟩ => ⟨hb ▸ d, g b k cs ys hb hk hc⟩ | exact id
  | halt _ _ => exact id
theorem g_cons_k {ops : Array Oper} {i : Nat} {rest : List Nat} {o : Oper} (ho : ops[i]? = some o) (hw : Region.wanted o (yielded ops a.tmps) = true)
    (h : ∀ w₁, S.R γ w w₁ → ∀ K : Act → World → Prop, (∀ a' w', S.D γ w₁ w' (listed P fn a o w₁) ∧ OG P S fn ops rest xs γ Q a' w' → K a' w') → uponK o a K ((execOp a.eval o).run P w₁)) : OG P S fn ops (i :: rest) xs γ Q a w :=
  g_cons ho hw fun w₁ h₁ => h w₁ h₁ _ fun _ _ x => x
/-- An operation that makes a block. -/
theorem g_make {ops : Array Oper} {i : Nat} {rest : List Nat} {o : Oper} (ho : ops[i]? = some o) (hw : Region.wanted o (yielded ops a.tmps) = true)
    (h : ∀ w₁, S.R γ w w₁ → ∀ K : Act → World → Prop, (∀ a' w', w'.heap.size = w₁.heap.size + 1 → (S.Own w₁.heap.size → S.D γ w₁ w' (listed P fn a o w₁) ∧ OG P S fn ops rest xs γ Q a' w') → K a' w') → uponK o a K ((execOp a.eval o).run P w₁)) : OG P S fn ops (i :: rest) xs γ Q a w := by
  intro b k cs ys hb hk hc
  refine GoI.makeG rfl fun w₁ h₁ => goes_oper ho hw hk ?_
  have := h w₁ h₁ (fun a' w' => w'.heap.size = w₁.heap.size + 1 ∧ (S.Own w₁.heap.size → S.D γ w₁ w' (listed P fn a o w₁) ∧ OG P S fn ops rest xs γ Q a' w')) fun _ _ x y => ⟨x, y⟩
  revert this
  cases (execOp a.eval o).run P w₁ with
  | ok x w' => cases x <;> first | exact fun ⟨d, g⟩ => ⟨d, fun y => ⟨hb ▸ (g y).1, (g y).2 b k cs ys hb hk hc⟩⟩ | exact id
  | halt _ _ => exact id
theorem g_skip (ok : SideOk S) (h : Q .normal a w γ) : WG P S fn .skip [] γ Q a w := g_of_wpC ok (wpC_skip (ok.terms γ) h)
theorem g_ret (ok : SideOk S) (h : Q .ret a w γ) : WG P S fn .ret [] γ Q a w := g_of_wpC ok (wpC_ret (ok.terms γ) h)
theorem g_exit (ok : SideOk S) {id : Nat} (h : Q (.exit id) a w γ) : WG P S fn (.exit id) [] γ Q a w := g_of_wpC ok (wpC_exit (ok.terms γ) h)
theorem g_label (ok : SideOk S) {l : Nat} (h : Q .normal a w γ) : WG P S fn (.label l) [] γ Q a w := g_of_wpC ok (wpC_label (ok.terms γ) h)
def InBlockS {σ : Type} (id : Nat) (Q : Exit → Act → World → σ → Prop) : Exit → Act → World → σ → Prop
  | .exit id', a, w, γ => if id' = id then Q .normal a w γ else Q (.exit id') a w γ
  | e, a, w, γ => Q e a w γ
theorem g_block (ok : SideOk S) {id : Nat} {x : Code} (h : WG P S fn x xs γ (InBlockS id Q) a w) : WG P S fn (.block id x) xs γ Q a w := by
  intro b k cs ys hb hk hc
  have hx : GoG P S (xs ++ ys) γ (G (b.at a ([.code x] ++ (.inBlock id :: k))) cs) w := by
    refine h b (.inBlock id :: k) cs ys hb hk fun e a' w' γ' q => ?_
    cases e with
    | normal => exact GoI.stepG rfl fun w₁ h₁ => by rw [stepG_inBlock]; exact ⟨(ok.terms γ').idle _, GoG.rely ok (hc _ _ _ _ q) h₁⟩
    | exit id' =>
      by_cases hid : id' = id
      · simp only [InBlockS, hid, if_true] at q
        exact ⟨k, by simp [exitTo, hid], hc _ _ _ _ q⟩
      · simp only [InBlockS, hid, if_false] at q
        obtain ⟨k', hk', hg⟩ := hc _ _ _ _ q
        have : (id == id') = false := by simp; exact fun h => hid h.symm
        exact ⟨k', by simp [exitTo, this, hk'], hg⟩
    | ret => exact fun todo => hc _ _ _ _ q todo
    | goto l => exact hc _ _ _ _ q
    | panic ch => exact hc _ _ _ _ q
    | outgrown => exact hc _ _ _ _ q
  exact GoI.stepG rfl fun w₁ h₁ => by simp only [List.cons_append, List.nil_append]; rw [stepG_block]; exact ⟨(ok.terms γ).idle _, GoG.rely ok hx h₁⟩
/-- What the rounds from j on send. -/
def runX {α : Type} (X : Nat → List α) : Nat → Nat → List α
  | _, 0 => []
  | j, r + 1 => X j ++ runX X (j + 1) r
theorem g_loop (ok : SideOk S) {x : Code} (n : Nat) (X : Nat → List α) (I : Nat → Act → World → σ → Prop)
    (round : ∀ j a w γ, j < n → I j a w γ → WG P S fn x (X j) γ (fun e a' w' γ' => e = .normal ∧ I (j + 1) a' w' γ') a w)
    (last : ∀ a w γ, I n a w γ → WG P S fn x [] γ (fun e a' w' γ' => e ≠ .normal ∧ Q e a' w' γ') a w)
    (h0 : I 0 a w γ) : WG P S fn (.loop x) (runX X 0 n) γ Q a w := by
  have key : ∀ r j a w γ, j + r = n → I j a w γ → ItG P S fn [.code x, .inLoop x] (runX X j r) γ Q a w := by
    intro r
    induction r with
    | zero =>
      intro j a w γ hj hI b k cs ys hb hk hc
      obtain rfl : j = n := by omega
      refine last a w γ hI b (.inLoop x :: k) cs ys hb hk fun e a' w' γ' q => ?_
      exact aftG_push rfl q.1 (hc _ _ _ _ q.2)
    | succ r ih =>
      intro j a w γ hj hI b k cs ys hb hk hc
      have h1 := round j a w γ (by omega) hI b (.inLoop x :: k) cs (runX X (j + 1) r ++ ys) hb hk fun e a' w' γ' q => by
        obtain ⟨rfl, q⟩ := q
        exact GoI.stepG rfl fun w₁ h₁ => by rw [stepG_inLoop]; exact ⟨(ok.terms γ').idle _, GoG.rely ok (ih (j + 1) a' w' γ' (by omega) q b k cs ys hb hk hc) h₁⟩
      simp only [runX]
      rw [List.append_assoc]
      exact h1
  intro b k cs ys hb hk hc
  exact GoI.stepG rfl fun w₁ h₁ => by simp only [List.cons_append, List.nil_append]; rw [stepG_loop]; exact ⟨(ok.terms γ).idle _, GoG.rely ok (key n 0 a w γ (by omega) h0 b k cs ys hb hk hc) h₁⟩
end

section
variable {P : Program} {α σ : Type} {S : Side α σ} {fn : FuncId} {xs ys : List α} {γ : σ} {Q : Exit → Act → World → σ → Prop} {a : Act} {w : World} {b : Frame} {k : List Item} {cs : List Frame}
/-- At a frame: a sequence is opened; a piece is passed. -/
theorem goG_seq (ok : SideOk S) {x y : Code} (h : GoG P S xs γ (G (b.at a (.code x :: .code y :: k)) cs) w) : GoG P S xs γ (G (b.at a (.code (.seq x y) :: k)) cs) w :=
  GoI.stepG rfl fun w₁ h₁ => by rw [stepG_seq]; exact ⟨(ok.terms γ).idle _, GoG.rely ok h h₁⟩
theorem goG_region (ok : SideOk S) {id : Nat} {ops : Array Oper} (h : GoG P S xs γ (G (b.at a (.inRegion ops (List.range ops.size) :: k)) cs) w) : GoG P S xs γ (G (b.at a (.code (.region id ops false) :: k)) cs) w :=
  GoI.stepG rfl fun w₁ h₁ => by rw [stepG_region]; exact ⟨(ok.terms γ).idle _, GoG.rely ok h h₁⟩
theorem goG_cond (ok : SideOk S) {o : Operand} {x y : Code} {t : Bool} (hc : a.eval o = .bool t) (h : GoG P S xs γ (G (b.at a (.code (if t then x else y) :: k)) cs) w) : GoG P S xs γ (G (b.at a (.code (.cond o x y) :: k)) cs) w :=
  GoI.stepG rfl fun w₁ h₁ => by rw [stepG_cond hc]; exact ⟨(ok.terms γ).idle _, GoG.rely ok h h₁⟩
theorem goG_block (ok : SideOk S) {id : Nat} {x : Code} (h : GoG P S xs γ (G (b.at a (.code x :: .inBlock id :: k)) cs) w) : GoG P S xs γ (G (b.at a (.code (.block id x) :: k)) cs) w :=
  GoI.stepG rfl fun w₁ h₁ => by rw [stepG_block]; exact ⟨(ok.terms γ).idle _, GoG.rely ok h h₁⟩
theorem goG_nil (ok : SideOk S) {ops : Array Oper} (h : GoG P S xs γ (G (b.at a k) cs) w) : GoG P S xs γ (G (b.at a (.inRegion ops [] :: k)) cs) w :=
  GoI.stepG rfl fun w₁ h₁ => by rw [stepG_region_end]; exact ⟨(ok.terms γ).idle _, GoG.rely ok h h₁⟩
theorem goG_op {ops : Array Oper} {i : Nat} {rest : List Nat} {o : Oper} (ho : ops[i]? = some o) (hw : Region.wanted o (yielded ops a.tmps) = true) (hk : b.kind ≠ .early)
    (h : ∀ w₁, S.R γ w w₁ → ∀ K : Act → World → Prop, (∀ a' w', S.D γ w₁ w' (listed P b.fn a o w₁) ∧ GoG P S xs γ (G (b.at a' (.inRegion ops rest :: k)) cs) w' → K a' w') → uponK o a K ((execOp a.eval o).run P w₁)) : GoG P S xs γ (G (b.at a (.inRegion ops (i :: rest) :: k)) cs) w :=
  GoI.stepG rfl fun w₁ h₁ => goes_oper_k ho hw hk fun K hK => h w₁ h₁ K hK
theorem goG_piece {x : Code} (hb : b.fn = fn) (hk : b.kind ≠ .early) (h : WG P S fn x xs γ Q a w) (hc : ∀ e a' w' γ', Q e a' w' γ' → AftG P S ys γ' b k cs e a' w') : GoG P S (xs ++ ys) γ (G (b.at a (.code x :: k)) cs) w := h b k cs ys hb hk hc
theorem goG_ret (ok : SideOk S) (hk : b.kind ≠ .early) (h : ∀ todo, GoG P S xs γ (G { b.at a todo with mode := .returning } cs) w) : GoG P S xs γ (G (b.at a (.code .ret :: k)) cs) w :=
  (g_ret ok (fn := b.fn) (Q := fun e a' w' γ' => e = .ret ∧ a' = a ∧ w' = w ∧ γ' = γ) ⟨rfl, rfl, rfl, rfl⟩) b k cs xs rfl hk fun e a' w' γ' q => by
    obtain ⟨rfl, rfl, rfl, rfl⟩ := q
    exact h
theorem goG_end (ok : SideOk S) (h : GoG P S xs γ (G { b.at a [] with mode := .returning } cs) w) : GoG P S xs γ (G (b.at a []) cs) w :=
  GoI.stepG rfl fun w₁ h₁ => by rw [stepG_end]; exact ⟨(ok.terms γ).idle _, GoG.rely ok h h₁⟩
end

/-! ### Calls -/
section
variable {P : Program} {main : Bool} {R : World → World → Prop} {D : World → World → Array Event → Prop}
/-- The function's results read v, in whatever world the others leave; what reading them lists is allowed. -/
def ResultsM (P : Program) (R : World → World → Prop) (D : World → World → Array Event → Prop) (f : FuncId) (fn : Func) (tmps : Array Value) (v : Value) (w : World) : Prop :=
  ∀ w₁, R w w₁ → (results fn tmps).run P w₁ = .ok v w₁ ∧ D w₁ w₁ (seen P f ((results fn tmps).events P w₁ #[]))
theorem resultsM_of_C {f : FuncId} {fn : Func} {tmps : Array Value} {v : Value} {w : World} (idle : ∀ w, D w w #[]) (h : ResultsC P fn tmps v) : ResultsM P R D f fn tmps v w := fun w₁ _ => ⟨(h w₁).1, by rw [(h w₁).2, seen_none]; exact idle _⟩
theorem stepG_leaveM {b : Frame} {a : Act} {cs : List Frame} {w : World} {fn : Func} {todo : List Item} {c : Frame} {v : Value} (hn : b.kind = .normal) (hd : a.defers = []) (hf : P.funcs[b.fn]? = some fn)
    (hr : (results fn a.tmps).run P w = .ok v w) :
    Go.stepG P main (G { b.at a todo with mode := .returning } (c :: cs)) w = .go (G (c.finish v) cs) w (seen P b.fn ((results fn a.tmps).events P w #[])) := by
  simp [G, Go.stepG, unwind, doReturn, Frame.at, hn, hd, hf, hr, GStep.after]
end
section
variable (P : Program) {α σ : Type} (S : Side α σ)
def bodyPostG (f : FuncId) (fn : Func) (Post : Value → World → σ → Prop) : Exit → Act → World → σ → Prop
  | .normal, a, w, γ | .ret, a, w, γ => a.defers = [] ∧ ∃ v, ResultsM P (S.R γ) (S.D γ) f fn a.tmps v w ∧ Post v w γ
  | _, _, _, _ => False
/-- A CONTRACT OF A FUNCTION THAT SENDS, RECEIVES OR MAKES. -/
def CallsG (f : FuncId) (args : Array Value) (xs : List α) (γ : σ) (Post : Value → World → σ → Prop) (w : World) : Prop :=
  ∃ fn x, P.funcs[f]? = some fn ∧ (fn.name == "runtime.NumGoroutine") = false ∧ fn.body = some x ∧
    WG P S f x xs γ (bodyPostG P S f fn Post) { tmps := args ++ Array.replicate (fn.ntmps - args.size) undef, defers := [] } w
end
section
variable {P : Program} {α σ : Type} {S : Side α σ} {fn : FuncId} {xs xs' : List α} {γ : σ} {Q : Exit → Act → World → σ → Prop} {a : Act} {w : World}
theorem callsG_of_wg {f : FuncId} {fn : Func} {x : Code} {args : Array Value} {Post : Value → World → σ → Prop} (hf : P.funcs[f]? = some fn) (hname : (fn.name == "runtime.NumGoroutine") = false) (hb : fn.body = some x)
    (h : WG P S f x xs γ (bodyPostG P S f fn Post) { tmps := args ++ Array.replicate (fn.ntmps - args.size) undef, defers := [] } w) : CallsG P S f args xs γ Post w := ⟨fn, x, hf, hname, hb, h⟩
theorem CallsG.mono {f : FuncId} {args : Array Value} {Post Post' : Value → World → σ → Prop} (h : CallsG P S f args xs γ Post w) (hp : ∀ v w γ, Post v w γ → Post' v w γ) : CallsG P S f args xs γ Post' w := by
  obtain ⟨fn, x, hf, hn, hb, hw⟩ := h
  refine ⟨fn, x, hf, hn, hb, ItG.mono hw fun e a w γ q => ?_⟩
  cases e <;> first | exact ⟨q.1, q.2.choose, q.2.choose_spec.1, hp _ _ _ q.2.choose_spec.2⟩ | exact q
/-- THROUGH A CALL. -/
theorem g_call (ok : SideOk S) {ops : Array Oper} {i : Nat} {rest : List Nat} {o : Oper} {f : FuncId} {args : Array Operand} {ats : Array TypeId} {Post : Value → World → σ → Prop}
    (ho : ops[i]? = some o) (hw : Region.wanted o (yielded ops a.tmps) = true) (hop : o.op = .call { callee := .value (.func f), args, argTypes := ats })
    (hcall : CallsG P S f (args.map a.eval) xs γ Post w)
    (hnext : ∀ v w' γ', Post v w' γ' → OG P S fn ops rest xs' γ' Q (a.put o.dst v) w') : OG P S fn ops (i :: rest) (xs ++ xs') γ Q a w := by
  intro b k cs ys hb hk hc
  obtain ⟨fn', x, hf, hname, hbody, hwp⟩ := hcall
  have hfin : ∀ v, (b.at a (.inRegion ops (i :: rest) :: k)).finish v = b.at (a.put o.dst v) (.inRegion ops rest :: k) := fun v => by rw [Frame.finish_at, ho]; rfl
  have hleave : ∀ (a' : Act) (w' : World) (γ' : σ) (todo : List Item), (a'.defers = [] ∧ ∃ v, ResultsM P (S.R γ') (S.D γ') f fn' a'.tmps v w' ∧ Post v w' γ') →
      GoG P S (xs' ++ ys) γ' (G { (base f).at a' todo with mode := .returning } (b.at a (.inRegion ops (i :: rest) :: k) :: cs)) w' := by
    rintro a' w' γ' todo ⟨hd, v, hr, hp⟩
    refine GoI.stepG rfl fun w₁ h₁ => ?_
    rw [stepG_leaveM (b := base f) rfl hd hf (hr w₁ h₁).1, hfin]
    exact ⟨(hr w₁ h₁).2, GoG.rely ok (hnext v w' γ' hp b k cs ys hb hk hc) h₁⟩
  have hbodyG : GoG P S (xs ++ (xs' ++ ys)) γ (G ((base f).at { tmps := args.map a.eval ++ Array.replicate (fn'.ntmps - (args.map a.eval).size) undef, defers := [] } ([.code x] ++ [])) (b.at a (.inRegion ops (i :: rest) :: k) :: cs)) w := by
    refine hwp (base f) [] _ (xs' ++ ys) rfl (by simp [base]) fun e a' w' γ' q => ?_
    cases e with
    | normal => exact GoI.stepG rfl fun w₁ h₁ => by rw [stepG_end]; exact ⟨(ok.terms γ').idle _, GoG.rely ok (hleave a' w' γ' [] q) h₁⟩
    | ret => exact fun todo => hleave a' w' γ' todo q
    | exit id => exact q.elim
    | goto l => exact q.elim
    | panic ch => exact q.elim
    | outgrown => exact q.elim
  rw [List.append_assoc]
  exact GoI.stepG rfl fun w₁ h₁ => goes_call ho hw hk hop hf hname hbody ⟨(ok.terms γ).idle _, GoG.rely ok hbodyG h₁⟩
/-- Through a call that sends, receives and makes nothing. -/
theorem g_callC (ok : SideOk S) {ops : Array Oper} {i : Nat} {rest : List Nat} {o : Oper} {f : FuncId} {args : Array Operand} {ats : Array TypeId} {nf : Nat} {Post : Value → World → Prop}
    (ho : ops[i]? = some o) (hw : Region.wanted o (yielded ops a.tmps) = true) (hop : o.op = .call { callee := .value (.func f), args, argTypes := ats })
    (hcall : CallsC P S.main (S.R γ) (S.D γ) f (args.map a.eval) nf w Post)
    (hnext : ∀ v w', Post v w' → OG P S fn ops rest xs γ Q (a.put o.dst v) w') : OG P S fn ops (i :: rest) xs γ Q a w := by
  intro b k cs ys hb hk hc
  exact GoI.of_goes (ok.refl γ) (Goes.call (m := 0) (Stop := fun g w => GoG P S (xs ++ ys) γ g w) (ok.terms γ) ho hw hk hop hcall fun v w' hp => fun w₁ h₁ => GoG.rely ok (hnext v w' hp b k cs ys hb hk hc) h₁)
end
end Go.Proofs.Ytlkhknoaifbajaa

/- CODE IN COMPANY: THE SIDES: the sender's, the receiver's, and goroutine 0's beside goroutines that only leave. -/
namespace Go.Proofs.Ytlkhknoaifbajaa
set_option maxRecDepth 100000
open Go.Conc Go.RowKit
open Go.ConcN (sumTo upd sumTo_upd upd_ne upd_same)
set_option linter.unusedVariables false
set_option linter.unusedSimpArgs false
set_option maxRecDepth 100000

theorem termsP (B0 c : Nat) (T : Cls) (Sent : Nat → Prop) : Terms (RelyP B0 c T) (DP B0 T Sent) := ⟨fun _ _ _ h h' => RelyP.trans h h', fun w => ⟨Grow.refl T w, fun _ _ _ => rfl, by simp⟩⟩
theorem termsC (B0 c : Nat) (T : Cls) (Got : Nat → Prop) : Terms (RelyC B0 c T Got) (DC B0 T Got) := ⟨fun _ _ _ h h' => RelyC.trans h h', fun w => ⟨Grow.refl T w, fun _ _ _ => rfl, by simp⟩⟩

section
variable (P : Program) (B0 c : Nat) (T : Cls) (O : Nat → Prop) {α : Type} (Pay : α → Value → (Nat → Prop) → World → Prop) (z : Value) (Fin Post : Goroutine → World → Prop)
def sideP : Side α (Nat → Prop) := { main := false, R := fun _ => RelyP B0 c T, D := fun Sent => DP B0 T Sent, Own := fun n => ¬ O n, Stop := fun zs Sent => StopP P B0 c T O Pay zs Sent }
def sideC : Side α (Nat → Prop) := { main := true, R := fun Got => RelyC B0 c T Got, D := fun Got => DC B0 T Got, Own := O, Stop := fun zs Got => StopC P B0 c T O Pay z Fin zs Got }
/-- Goroutine 0 beside leavers: a step of its own. -/
def DMain (w w' : World) (es : Array Event) : Prop := w.heap.size ≤ w'.heap.size ∧ ∀ e ∈ es, EvF w'.heap.size e
def sideM : Side Unit Unit := { main := true, R := fun _ => AtRel, D := fun _ => DMain, Own := fun _ => True, Stop := fun _ _ g w => ToM P g w Post }
end
section
variable {P : Program} {B0 c : Nat} {T : Cls} {O : Nat → Prop} {α : Type} {Pay : α → Value → (Nat → Prop) → World → Prop} {z : Value} {Fin Post : Goroutine → World → Prop}
theorem sideP_ok : SideOk (sideP P B0 c T O Pay) := ⟨fun _ w => RelyP.refl w, fun γ => termsP B0 c T γ⟩
theorem sideC_ok : SideOk (sideC P B0 c T O Pay z Fin) := ⟨fun _ w => RelyC.refl w, fun γ => termsC B0 c T γ⟩
theorem atRel_refl (w : World) : AtRel w w := ⟨w.drawn, rfl⟩
theorem termsM : Terms AtRel DMain := ⟨fun a b d h h' => by
  obtain ⟨x, rfl⟩ := h
  obtain ⟨y, rfl⟩ := h'
  exact ⟨y, rfl⟩, fun w => ⟨Nat.le_refl _, by simp⟩⟩
theorem sideM_ok : SideOk (sideM P Post) := ⟨fun _ w => atRel_refl w, fun _ => termsM⟩

/-- THE SEND. -/
theorem g_send {fn : FuncId} {xs : List α} {Sent : Nat → Prop} {Q : Exit → Act → World → (Nat → Prop) → Prop} {a : Act} {w : World} {x : α} {ops : Array Oper} {i : Nat} {rest : List Nat} {o : Oper} (ho : ops[i]? = some o) (hw : Region.wanted o (yielded ops a.tmps) = true)
    (h : ∀ w₁, RelyP B0 c T w w₁ → ∃ v z' rows, (∀ d, (execOp a.eval o).run P (w₁.at d) = .ok (.comm #[scase c v z'] true .send) (w₁.at d) ∧ (execOp a.eval o).events P (w₁.at d) #[] = #[]) ∧ Pay x v rows w₁ ∧
      (∀ b, rows b → B0 ≤ b ∧ b < w₁.heap.size ∧ ¬ isC T w₁ b ∧ ¬ Sent b) ∧ ∀ w₂, RelyP B0 c T w₁ w₂ → OG P (sideP P B0 c T O Pay) fn ops rest xs (fun b => Sent b ∨ rows b) Q (a.put o.dst undef) w₂) :
    OG P (sideP P B0 c T O Pay) fn ops (i :: rest) (x :: xs) Sent Q a w := by
  intro b k cs ys hb hk hc
  refine GoI.stop fun w₁ h₁ => ?_
  obtain ⟨v, z', rows, hrun, hp, hrows, hnext⟩ := h w₁ h₁
  refine ⟨rfl, v, z', rows, fun d => ?_, hp, hrows, fun w₂ h₂ => ?_⟩
  · have h3 := stepG_comm (main := false) (b := b) (k := k) (cs := cs) (rest := rest) ho hw hk (hrun d).1
    rw [listed_nil (hrun d).2] at h3
    rw [core_G]
    exact h3
  · have hN := hnext w₂ h₂
    rw [core_G]
    simp only [List.cons_append, List.nil_append]
    rw [served_G, ho]
    exact (sends_iff P B0 c T O Pay _ _ _ _).2 (hN b k cs ys hb hk hc)
/-- A RECEIVE that is served with a message. -/
theorem g_recv {fn : FuncId} {xs : List α} {Got : Nat → Prop} {Q : Exit → Act → World → (Nat → Prop) → Prop} {a : Act} {w : World} {x : α} {ops : Array Oper} {i : Nat} {rest : List Nat} {o : Oper} (ho : ops[i]? = some o) (hw : Region.wanted o (yielded ops a.tmps) = true)
    (hrun : ∀ w₁, RelyC B0 c T Got w w₁ → ∀ d, (execOp a.eval o).run P (w₁.at d) = .ok (.comm #[rcase c z] true (.recv true)) (w₁.at d) ∧ (execOp a.eval o).events P (w₁.at d) #[] = #[])
    (hnext : ∀ w₂, RelyC B0 c T Got w w₂ → ∀ v rows, Pay x v rows w₂ → (∀ b, rows b → B0 ≤ b ∧ b < w₂.heap.size ∧ ¬ isC T w₂ b ∧ ¬ Got b) → OG P (sideC P B0 c T O Pay z Fin) fn ops rest xs (fun b => Got b ∨ rows b) Q (a.put o.dst (.tuple #[v, .bool true])) w₂) :
    OG P (sideC P B0 c T O Pay z Fin) fn ops (i :: rest) (x :: xs) Got Q a w := by
  intro b k cs ys hb hk hc
  refine GoI.stop fun w₁ h₁ => ?_
  refine ⟨rfl, fun d => ?_, fun w₂ h₂ v rows hp hr => ?_⟩
  · have h3 := stepG_comm (main := true) (b := b) (k := k) (cs := cs) (rest := rest) ho hw hk (hrun w₁ h₁ d).1
    rw [listed_nil (hrun w₁ h₁ d).2] at h3
    rw [core_G]
    exact h3
  · have hN := hnext w₂ (RelyC.trans h₁ h₂) v rows hp hr
    rw [core_G]
    simp only [List.cons_append, List.nil_append]
    rw [served_G, ho]
    exact (recvs_iff P B0 c T O Pay z Fin _ _ _ _).2 (hN b k cs ys hb hk hc)
/-- THE LAST RECEIVE: the channel is closed. -/
theorem goG_last {Got : Nat → Prop} {a : Act} {w : World} {ops : Array Oper} {i : Nat} {rest : List Nat} {o : Oper} {b : Frame} {k : List Item} {cs : List Frame} (ho : ops[i]? = some o) (hw : Region.wanted o (yielded ops a.tmps) = true) (hk : b.kind ≠ .early)
    (hrun : ∀ w₁, RelyC B0 c T Got w w₁ → ∀ d, (execOp a.eval o).run P (w₁.at d) = .ok (.comm #[rcase c z] true (.recv true)) (w₁.at d) ∧ (execOp a.eval o).events P (w₁.at d) #[] = #[])
    (h : ∀ w₂, RelyC B0 c T Got w w₂ → Fin (G (b.at (a.put o.dst (.tuple #[z, .bool false])) (.inRegion ops rest :: k)) cs) w₂) :
    GoG P (sideC P B0 c T O Pay z Fin) [] Got (G (b.at a (.inRegion ops (i :: rest) :: k)) cs) w := by
  refine GoI.stop fun w₁ h₁ => ?_
  refine ⟨rfl, fun d => ?_, fun w₂ h₂ => ?_⟩
  · have h3 := stepG_comm (main := true) (b := b) (k := k) (cs := cs) (rest := rest) ho hw hk (hrun w₁ h₁ d).1
    rw [listed_nil (hrun w₁ h₁ d).2] at h3
    rw [core_G]
    exact h3
  · have hN := h w₂ (RelyC.trans h₁ h₂)
    show Fin (Go.Conc.served (core _) (.tuple #[z, .bool false])) w₂
    rw [core_G, served_G, ho]
    exact hN

/-! ### Goroutine 0 beside leavers -/
theorem toM_of_goG {ys : List Unit} {g : Goroutine} {w : World} (h : GoG P (sideM P Post) ys () g w) : ToM P g w Post := by
  obtain ⟨r, h⟩ := h
  induction r generalizing g w with
  | zero => exact h.elim
  | lim f ih =>
    rcases h with h | ⟨hs, h⟩ | ⟨hs, h⟩
    · exact h w (atRel_refl w)
    · refine ToM.step hs fun d => ?_
      obtain ⟨g', w', es, h1, h2, h3⟩ := h (w.at d) ⟨d, rfl⟩
      exact ⟨g', w', es, h1, h2.1, h2.2, ih _ h3⟩
    · refine ToM.step hs fun d => ?_
      obtain ⟨g', w', es, h1, _, h3⟩ := h (w.at d) ⟨d, rfl⟩
      obtain ⟨h4, h5⟩ := h3 trivial
      exact ⟨g', w', es, h1, h4.1, h4.2, ih _ h5⟩
theorem goG_of_toM {ys : List Unit} {g : Goroutine} {w : World} (h : ∀ d, ToM P g (w.at d) Post) : GoG P (sideM P Post) ys () g w := GoI.stop fun w₁ h₁ => by
  obtain ⟨d, rfl⟩ := h₁
  exact h d
/-- THROUGH A CALL BY ITS CONTRACT OF ONE GOROUTINE ALONE. -/
theorem m_lone {okf : FuncId → Bool} (hp : GoodP okf P) {fn : FuncId} {Q : Exit → Act → World → Unit → Prop} {a : Act} {w : World} {ops : Array Oper} {i : Nat} {rest : List Nat} {o : Oper} {f : FuncId} {fn' : Func} {args : Array Operand} {ats : Array TypeId} {t : Tmp} {Rr : Value → World → Prop}
    (hf : okf f = true) (hfn : P.funcs[f]? = some fn') (hname : (fn'.name == "runtime.NumGoroutine") = false) (hbody : fn'.body.isNone = false) (hres : fn'.results = #[.tmp t])
    (ho : ops[i]? = some o) (hw : Region.wanted o (yielded ops a.tmps) = true) (hop : o.op = .call { callee := .value (.func f), args, argTypes := ats })
    (hre : ∀ v W τ d o τ' d' o', Rr v (re W τ d o) → Rr v (re W τ' d' o'))
    (hc : ∀ (τ : Ans) (d : Nat) (o : Array (Nat × ByteArray)), Calls P f (args.map a.eval) (re w τ d o) fun e w' => ∃ v, e = .returned v ∧ Rr v w')
    (hnext : ∀ v w', w'.tape = w.tape → w'.output = w.output → Rr v w' → OG P (sideM P Post) fn ops rest [] () Q (a.put o.dst v) w') : OG P (sideM P Post) fn ops (i :: rest) [] () Q a w := by
  intro b k cs ys hb hk hcont
  have hfin : ∀ v, (b.at a (.inRegion ops (i :: rest) :: k)).finish v = b.at (a.put o.dst v) (.inRegion ops rest :: k) := fun v => by rw [Frame.finish_at, ho]; rfl
  refine goG_of_toM fun d => ?_
  refine ToM.step rfl fun d1 => ?_
  refine ⟨_, _, _, stepG_enter ho hw hk (run_call_body hop hfn hname hbody), Nat.le_refl _, ?_, ?_⟩
  · intro e he
    have hl : listed P b.fn a o ((w.at d).at d1) = #[] := by unfold listed; rw [events_call_body hop hfn hname hbody]; exact seen_none P _
    rw [hl] at he
    simp at he
  have hs : Safe P (fun fr W => ∃ v τ d o, fr.fn = f ∧ fr.leaving P (re W τ d o) (.returned v) ∧ Rr v (re W τ d o)) (Frame.enter P f (args.map a.eval) .normal) [] w :=
    safe_of_calls hp hf hc fun fr W τ d o v h1 h2 h3 => ⟨v, τ, d, o, h1, h2, h3⟩
  refine ToM.trans (toM_safe hs (b.at a (.inRegion ops (i :: rest) :: k) :: cs) w.tape d1 w.output) ?_
  rintro a' w' ⟨fr, W, d2, rfl, rfl, hmode, v, τ, d3, o3, hffn, ⟨_, hdf, hkd, fn2, hfn2, hrun⟩, hR⟩
  rw [hffn, hfn] at hfn2
  obtain rfl := Option.some.inj hfn2
  have hv : fr.tmps.getD t undef = v := by
    have := results_tmp hres fr.tmps P (re W τ d3 o3)
    rw [hrun] at this
    exact (Result.ok.inj this).1.symm
  subst hv
  refine ToM.step rfl fun d4 => ?_
  refine ⟨G (b.at (a.put o.dst (fr.tmps.getD t undef)) (.inRegion ops rest :: k)) cs, (re W w.tape d2 w.output).at d4, #[], ?_, Nat.le_refl _, by simp, ?_⟩
  · have hr4 := results_tmp hres fr.tmps P ((re W w.tape d2 w.output).at d4)
    have he4 := events_results_tmp (P := P) (w := (re W w.tape d2 w.output).at d4) hres fr.tmps #[]
    have hfn' : P.funcs[fr.fn]? = some fn' := by rw [hffn]; exact hfn
    simp [G, stepG, unwind, doReturn, hdf, hkd, hmode, hfn', hr4, he4, GStep.after, seen_none, ← hfin]
  · have hg := hnext (fr.tmps.getD t undef) (re W w.tape d4 w.output) rfl rfl (hre _ W τ d3 o3 w.tape d4 w.output hR) b k cs ys hb hk hcont
    exact toM_of_goG hg
/-- A receive from a closed channel that is empty. -/
theorem toM_recv_closed {g : Goroutine} {w : World} {cap s r : Nat} (hrun : g.status = .running) (hcomm : ∀ d, stepG P true g (w.at d) = .comm (core g) #[rcase c z] true (.recv true) (w.at d) #[]) (hc : w.heap[c]? = some (.chan cap #[] true s r false))
    (h : ∀ d, ToM P (Go.Conc.served (core g) (.tuple #[z, .bool false])) (w.at d) Post) : ToM P g w Post := by
  refine ToM.turn hrun fun d gs sl t q hf => ?_
  have hlt0 : 0 < gs.size := (Array.getElem?_eq_some_iff.1 hf.zero).1
  have hpart : partners (gs.setIfInBounds 0 ph) c true = [] := by
    refine partners_nil fun j g' hj => ?_
    rcases getElem?_stand gs 0 j g' hj with ⟨_, rfl⟩ | ⟨hj0, hj⟩
    · rfl
    · exact offersAt_of_not_blocked (by rcases (hf.leave.old j g' (by omega) hj).status with e | e <;> rw [e] <;> simp) _ _
  have hrT := crowd_recv_closed (P := P) (sl := sl) (i := 0) (w := w.at d) hf.zero (show stepG P (0 == 0) g (w.at d) = _ from hcomm d) hc hpart
  rw [finishComm_recv, show MemOp.ofEvents 0 g.frame.fn g.frame.place #[] = #[] from rfl, Array.empty_append] at hrT
  refine ⟨_, _, _, hrT, ?_⟩
  have hqu : Quiet (#[{ g := 0, fn := (core g).frame.fn, pos := (core g).frame.place, act := .recvClosed c }] : Trace) (w.at d).heap.size := quiet_of fun op hop => by
    simp only [List.mem_toArray, List.mem_cons, List.not_mem_nil, or_false] at hop
    subst hop
    exact ⟨rfl, heap_low hc, fun _ _ => rfl⟩
  obtain ⟨N, gs2, a2, w2, sl2, t2, q2, hr2, hp2, hf2⟩ := h d _ sl _ q (show Frm P (Go.Conc.served (core g) (.tuple #[z, .bool false])) (w.at d) (gs.setIfInBounds 0 (Go.Conc.served (core g) (.tuple #[z, .bool false]))) (t ++ #[{ g := 0, fn := (core g).frame.fn, pos := (core g).frame.place, act := .recvClosed c }]) q from by
    refine ⟨by rw [get_set _ _ _ _ hlt0, if_pos rfl], ⟨fun j x hj hx => ?_, fun j hj => ?_⟩, hf.past.app0 (fun op hop => ?_) (fun op hop b hb => ?_) (hqu.deaf 0) hqu.2.1⟩
    · rw [Array.getElem?_setIfInBounds_ne (by omega)] at hx
      rw [hqu.deaf]
      exact hf.leave.old j x hj hx
    · rw [hqu.deaf]
      exact hf.leave.above j (by simpa using hj)
    · simp only [List.mem_toArray, List.mem_cons, List.not_mem_nil, or_false] at hop
      subst hop; rfl
    · rw [hqu.1 op hop] at hb; cases hb)
  exact ⟨N, gs2, a2, w2, sl2, t2, q2, hr2, hp2, hf2⟩
end
end Go.Proofs.Ytlkhknoaifbajaa

/- THE PROGRAM's TEXT THAT NO OTHER GOROUTINE IS MET IN: a list of its functions, tested. -/
namespace Go.Proofs.Ytlkhknoaifbajaa
open Go Go.Conc
set_option linter.unusedVariables false
set_option maxRecDepth 100000

section
variable {p : Program}
theorem tame_xLoad {a : Addr} : ∀ (n : Nat) (a : Addr) (acc : ByteArray), Tame p Any (Extern.Bytes.loadBytes a n acc)
  | 0, _, _ => tame_pureA
  | n + 1, a, acc => by
    unfold Extern.Bytes.loadBytes
    refine tame_bind tame_load fun _ => ?_
    split
    · exact tame_xLoad (a := a) n _ _
    · exact tame_stuck
theorem tame_indexByte {args : Array Value} : Tame p Any (Extern.BytealgIndexByte.indexByte args) := by
  unfold Extern.BytealgIndexByte.indexByte
  obtain ⟨l⟩ := args
  rcases l with _ | ⟨x, _ | ⟨y, _ | ⟨z, l⟩⟩⟩
  · exact tame_stuck
  · exact tame_stuck
  · show Tame p Any (Extern.Bytes.bytesOf x >>= _)
    refine tame_bind ?_ fun _ => tame_bind ?_ fun _ => ?_
    · unfold Extern.Bytes.bytesOf
      split
      · exact tame_pureA
      · exact tame_pureA
      · exact tame_xLoad (a := ⟨0, 0, none⟩) _ _ _
      · exact tame_stuck
    · unfold Extern.Bytes.asByte
      split
      · exact tame_pureA
      · exact tame_stuck
    · split <;> exact tame_pureA
  · exact tame_stuck
theorem tame_callExtern {f : FuncId} {args : Array Value} {fn : Func} {okN : Next → Prop} {e : Array Value → Sem Value} (hf : p.funcs[f]? = some fn) (hn : (fn.name == "runtime.NumGoroutine") = false) (hb : fn.body.isNone = true)
    (e1 : Extern.findNext fn = none) (e2 : Extern.find fn = some e) (he : ∀ args, Tame p Any (e args)) (hv : ∀ v, okN (.value v)) : Tame p okN (callFunc f args) := by
  unfold callFunc
  show Tame p okN (match p.funcs[f]? with | none => _ | some fn => _)
  rw [hf]
  simp only [hn, hb, Bool.false_eq_true, if_false, if_true, e1, e2]
  exact tame_bind (s := mark (.extern f)) ⟨.inr ⟨_, rfl⟩, trivial⟩ fun _ => tame_bind (he args) fun _ => hv _
end

def okList : List Nat := [10, 11, 12, 13, 14, 15, 16, 17, 18, 19, 20, 21, 22, 23, 24, 25, 27, 28, 30, 32, 34, 35, 36, 37, 39, 40, 41, 42, 43, 44, 45, 47, 48, 49, 50, 51, 52, 53, 54, 55, 56, 57, 58, 59, 60, 61, 62, 63, 64, 65, 66, 67, 68, 69, 70, 71, 72, 73, 74, 77, 78, 79, 80, 81, 82, 83, 84, 85, 86, 87, 88, 89, 90, 91, 92, 93, 94, 95, 96, 97, 98, 99, 100, 103, 104, 105, 106, 107, 108, 109, 112, 113]
def okF (f : FuncId) : Bool := okList.contains f
theorem ok_code : (okList.all fun f => match Try.prog.funcs[f]? with | some fn => (match fn.body with | some c => okCode okF c | none => f == 113) && !(fn.name == "runtime.NumGoroutine") | none => false) = true := by kernel_rfl
theorem ok_ahead : Try.prog.follows .staticDataAhead = true := by kernel_rfl
theorem no_steps : (Try.prog.funcs.all fun fn => (fn.body.map readies).all (·.isEmpty)) = true := by kernel_rfl

theorem goodP : GoodP okF Try.prog := by
  have hall : ∀ f, okF f = true → (match Try.prog.funcs[f]? with | some fn => (match fn.body with | some c => okCode okF c | none => f == 113) && !(fn.name == "runtime.NumGoroutine") | none => false) = true := by
    intro f hf
    exact List.all_eq_true.1 ok_code f (by simpa [okF] using hf)
  refine ⟨fun f hf args => ?_, fun f fn c hf h1 h2 => ?_, ok_ahead, fun g => ?_⟩
  · have h := hall f hf
    cases h1 : Try.prog.funcs[f]? with
    | none => rw [h1] at h; cases h
    | some fn =>
      rw [h1] at h
      simp only [Bool.and_eq_true, Bool.not_eq_true'] at h
      cases h2 : fn.body with
      | some c => exact tame_callFunc h1 (by simp [h2]) h.2 hf
      | none =>
        rw [h2] at h
        obtain rfl : f = 113 := by simpa using h.1
        rw [Try.func113] at h1
        obtain rfl := Option.some.inj h1
        exact tame_callExtern (e := Extern.BytealgIndexByte.indexByte) Try.func113 h.2 (by simp [h2]) (by kernel_rfl) (by kernel_rfl) (fun _ => tame_indexByte) fun _ => trivial
  · have h := hall f hf
    rw [h1] at h
    dsimp only at h
    rw [h2] at h
    simp only [Bool.and_eq_true] at h
    exact h.1
  · unfold Program.stepOf
    rw [Array.findIdx?_eq_none_iff]
    intro fn hfn
    have := (Array.all_eq_true_iff_forall_mem.1 no_steps) fn hfn
    cases hb : fn.body with
    | none => simp
    | some c => rw [hb] at this; simp at this; simp [this]
end Go.Proofs.Ytlkhknoaifbajaa
