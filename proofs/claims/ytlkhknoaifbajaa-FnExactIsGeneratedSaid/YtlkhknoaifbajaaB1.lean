/- Merged: Pr1 Pr2 Pr3 Pr4 Pr5 Pr6 Pr7 Pr8 Pr10 Pr11 Pr9. -/
import Derived.Test.YtlkhknoaifbajaaA8
import Derived.Test.YtlkhknoaifbajaaChecked
import Derived.Test.YtlkhknoaifbajaaA1
import Derived.Conc.CompanyMem
import Derived.Conc.CompanyWords
import Derived.RowKit
import Derived.KernelRfl
import Derived.OwnWalk
import Derived.Conc.EventLaws2
import Derived.Conc.AppendWalk
import Derived.Laws.MakeOwn
import Derived.Laws.CopyRow
import Derived.Laws.ResultCell
/- THE SENDER's WALK: the functions that it calls, in company. -/
namespace Go.Proofs.Ytlkhknoaifbajaa
open Go.Conc Go.RowKit
set_option linter.unusedVariables false
set_option linter.unusedSimpArgs false

set_option maxRecDepth 100000 in
set_option maxHeartbeats 2000000 in
theorem swap_c : ∃ n, ∀ (main : Bool) (R : World → World → Prop) (D : World → World → Array Event → Prop) (Tm : Terms R D) (x : Int) (w : World), CallsC Try.prog main R D 108 #[.int .u8 x] n w fun v w' => v = .tuple #[.int .u8 (swapV x), .bool (isObs x)] ∧ Since R w w' := by
  co_apply Exists.intro
  intro main R D Tm x w
  co_apply callsC_of_wpC Try.func108 (by rfl) rfl
  have hF : Since R w w := .refl w
  simp only [Try.ntmps108, List.size_toArray, List.length_cons, List.length_nil, Nat.reduceAdd, Nat.reduceSub, Array.replicate_succ, Array.replicate_zero, List.push_toArray, List.append_toArray, List.nil_append, List.cons_append]
  co_go Tm (Since.rely Tm) hF (co_quiet Tm)
  co_split Tm (x == 112)
  · intro h1
    co_go Tm (Since.rely Tm) hF (co_quiet Tm)
    exact ⟨rfl, _, resultsC_tmp2 (by rfl) _, by have h : x = 112 := by simpa using h1
                                                subst h; rfl, hF⟩
  · intro h1
    co_go Tm (Since.rely Tm) hF (co_quiet Tm)
    co_split Tm (x == 98)
    · intro h2
      co_go Tm (Since.rely Tm) hF (co_quiet Tm)
      exact ⟨rfl, _, resultsC_tmp2 (by rfl) _, by have h : x = 98 := by simpa using h2
                                                  subst h; rfl, hF⟩
    · intro h2
      co_go Tm (Since.rely Tm) hF (co_quiet Tm)
      co_split Tm (x == 116)
      · intro h3
        co_go Tm (Since.rely Tm) hF (co_quiet Tm)
        exact ⟨rfl, _, resultsC_tmp2 (by rfl) _, by have h : x = 116 := by simpa using h3
                                                    subst h; rfl, hF⟩
      · intro h3
        co_go Tm (Since.rely Tm) hF (co_quiet Tm)
        co_split Tm (x == 100)
        · intro h4
          co_go Tm (Since.rely Tm) hF (co_quiet Tm)
          exact ⟨rfl, _, resultsC_tmp2 (by rfl) _, by have h : x = 100 := by simpa using h4
                                                      subst h; rfl, hF⟩
        · intro h4
          co_go Tm (Since.rely Tm) hF (co_quiet Tm)
          refine ⟨rfl, _, resultsC_tmp2 (by rfl) _, ?_, hF⟩
          have e1 : ¬ x = 112 := by simpa using h1
          have e2 : ¬ x = 98 := by simpa using h2
          have e3 : ¬ x = 116 := by simpa using h3
          have e4 : ¬ x = 100 := by simpa using h4
          simp [swapV, isObs, e1, e2, e3, e4]
end Go.Proofs.Ytlkhknoaifbajaa

/- THE SENDER's WALK: the generator's block; keep, edit. -/
namespace Go.Proofs.Ytlkhknoaifbajaa
open Go.Conc Go.RowKit M
set_option linter.unusedVariables false
set_option linter.unusedSimpArgs false
set_option maxRecDepth 100000

def lkV (x : DLink) : List Value := [.int .u8 (x.In.toNat : Int), .int .u8 (x.Out.toNat : Int)]
/-- The generator's cells: the input; the links made so far; whatever lies in the places behind them; how many; the channel. -/
def gC (s : ByteArray) (c : Nat) (ls : List DLink) (pad : List Value) : List Value := .string s :: (ls.flatMap lkV ++ (pad ++ [.int .i64 (ls.length : Int), .chan (some c)]))
theorem lkV_len (ls : List DLink) : (ls.flatMap lkV).length = 2 * ls.length := by
  induction ls with
  | nil => rfl
  | cons x l ih => rw [List.flatMap_cons, List.length_append, ih, List.length_cons]; simp [lkV]; omega

/-- Since w0 nothing but block g has been turned of what is the sender's. -/
def Kp (B0 c : Nat) (T : Cls) (g : Nat) (w w' : World) : Prop := Grow T w w' ∧ ∀ k, k < w.heap.size → k ≠ c → k ≠ g → (k < B0 ∨ ¬ isC T w k) → w'.heap[k]? = w.heap[k]?
theorem Kp.refl (B0 c : Nat) (T : Cls) (g : Nat) (w : World) : Kp B0 c T g w w := ⟨Grow.refl T w, fun _ _ _ _ _ => rfl⟩
theorem Kp.trans {B0 c : Nat} {T : Cls} {g : Nat} {a b d : World} (h : Kp B0 c T g a b) (h' : Kp B0 c T g b d) : Kp B0 c T g a d :=
  ⟨h.1.trans h'.1, fun k hk hc hg hx => (h'.2 k (Nat.lt_of_lt_of_le hk h.1.size) hc hg (hx.imp id fun y z => y ((h.1.cls k hk).1 z))).trans (h.2 k hk hc hg hx)⟩
theorem RelyP.kp {B0 c : Nat} {T : Cls} {g : Nat} {w w' : World} (h : RelyP B0 c T w w') : Kp B0 c T g w w' := ⟨h.1, fun k hk hc _ hx => h.2 k hk hc hx⟩

section
variable (B0 c : Nat) (T : Cls) (Sent : Nat → Prop) (s : ByteArray) (g : Nat) (w0 : World)
/-- WHAT IS HELD OF THE WORLD: the generator's block holds these cells. -/
structure HB (cs : List Value) (w : World) : Prop where
  blk : InC w g cs.toArray 105
  low : B0 ≤ g
  ne : g ≠ c
  uns : ¬ Sent g
  cls : ∀ cs, ¬ T cs 105 g
  chn : c < B0
  kp : Kp B0 c T g w0 w
end

section
variable {B0 c : Nat} {T : Cls} {Sent : Nat → Prop} {s : ByteArray} {g : Nat} {ls : List DLink} {pad : List Value} {cs : List Value} {w0 w w₁ : World}
theorem not_isC {b : Nat} {cs : Array Value} {t : TypeId} {fz : Nat × Nat} (h : w.heap[b]? = some (.cells cs t fz)) (hT : ∀ cs, ¬ T cs t b) : ¬ isC T w b := by
  rintro ⟨cs', ty, fz', h', ht⟩
  rw [h] at h'
  obtain ⟨rfl, rfl, rfl⟩ := Obj.cells.inj (Option.some.inj h')
  exact hT _ ht
theorem HB.notC (h : HB B0 c T Sent g w0 cs w) : ¬ isC T w g := not_isC h.blk h.cls
theorem HB.rely (h : HB B0 c T Sent g w0 cs w) (r : RelyP B0 c T w w₁) : HB B0 c T Sent g w0 cs w₁ :=
  ⟨(r.2 g (heap_low h.blk) h.ne (.inr h.notC)).trans h.blk, h.low, h.ne, h.uns, h.cls, h.chn, h.kp.trans r.kp⟩
theorem HB.cell (h : HB B0 c T Sent g w0 cs w) (j : Nat) {u : Value} (hu : cs[j]? = some u) : w.cell? ⟨g, j, none⟩ = some u := InC.cell h.blk j (by simpa using hu)
theorem HB.free (h : HB B0 c T Sent g w0 cs w) (j : Nat) : w.frozen? ⟨g, j, none⟩ = false := InC.free h.blk j
theorem gC_used (hl : pad.length = 32 - 2 * ls.length) (hf : ls.length ≤ 16) : (gC s c ls pad)[33]? = some (.int .i64 (ls.length : Int)) := by
  have h1 := lkV_len ls
  unfold gC
  rw [List.getElem?_cons_succ, List.getElem?_append_right (by omega), List.getElem?_append_right (by omega), h1, hl, show 32 - 2 * ls.length - (32 - 2 * ls.length) = 0 by omega]
  rfl
theorem gC_chan (hl : pad.length = 32 - 2 * ls.length) (hf : ls.length ≤ 16) : (gC s c ls pad)[34]? = some (.chan (some c)) := by
  have h1 := lkV_len ls
  unfold gC
  rw [List.getElem?_cons_succ, List.getElem?_append_right (by omega), List.getElem?_append_right (by omega), h1, hl, show 33 - 2 * ls.length - (32 - 2 * ls.length) = 1 by omega]
  rfl
theorem HB.used (h : HB B0 c T Sent g w0 (gC s c ls pad) w) (hl : pad.length = 32 - 2 * ls.length) (hf : ls.length ≤ 16) : w.cell? ⟨g, 33, none⟩ = some (.int .i64 (ls.length : Int)) := h.cell 33 (gC_used hl hf)
theorem HB.chan (h : HB B0 c T Sent g w0 (gC s c ls pad) w) (hl : pad.length = 32 - 2 * ls.length) (hf : ls.length ≤ 16) : w.cell? ⟨g, 34, none⟩ = some (.chan (some c)) := h.cell 34 (gC_chan hl hf)
theorem HB.text (h : HB B0 c T Sent g w0 (gC s c ls pad) w) : w.cell? ⟨g, 0, none⟩ = some (.string s) := h.cell 0 rfl
/-- Its block is written. -/
theorem HB.put (h : HB B0 c T Sent g w0 cs w) (j : Nat) (v : Value) : HB B0 c T Sent g w0 (cs.set j v) (w.setCell ⟨g, j, none⟩ v) := by
  have hsame : (w.setCell ⟨g, j, none⟩ v).heap[g]? = some (.cells (cs.toArray.setIfInBounds j v) 105 (0, 0)) := heap_setCell_same w g j _ _ v h.blk
  have hoth : ∀ k, k ≠ g → (w.setCell ⟨g, j, none⟩ v).heap[k]? = w.heap[k]? := fun k hk => heap_setCell_other w ⟨g, j, none⟩ k v hk
  have hsz : (w.setCell ⟨g, j, none⟩ v).heap.size = w.heap.size := by simp [World.setCell]
  rw [List.setIfInBounds_toArray] at hsame
  refine ⟨hsame, h.low, h.ne, h.uns, h.cls, h.chn, h.kp.trans ⟨⟨rfl, rfl, rfl, Nat.le_of_eq hsz.symm, fun k hk => ?_⟩, fun k hk _ hg _ => hoth k hg⟩⟩
  by_cases e : k = g
  · subst e; exact ⟨fun x => absurd x (not_isC hsame h.cls), fun x => absurd x h.notC⟩
  · unfold isC; rw [hoth k e]
/-- What a step may list: its own block's cells. -/
theorem evP_own {b j : Nat} {wr : Bool} (hB : B0 ≤ b) (hlt : b < w.heap.size) (hC : ¬ isC T w b) (hS : ¬ Sent b) :
    EvF w.heap.size ⟨.cell ⟨b, j, none⟩, wr, false⟩ ∧ ∀ x, (MemAct.ofEvent ⟨.cell ⟨b, j, none⟩, wr, false⟩).touch? = some x → x.loc.isMemory = true → MayP B0 (isC T w) Sent x := by
  refine ⟨evF_cell _ _ hlt, fun x hx _ => ?_⟩
  rw [ofEvent_cell0] at hx
  simp only [MemAct.touch?, Option.some.injEq] at hx
  subst hx
  exact ⟨b, rfl, .inr ⟨hB, hC, hS⟩⟩
theorem evP_old {b j : Nat} (hB : b < B0) (hlt : b < w.heap.size) :
    EvF w.heap.size ⟨.cell ⟨b, j, none⟩, false, false⟩ ∧ ∀ x, (MemAct.ofEvent ⟨.cell ⟨b, j, none⟩, false, false⟩).touch? = some x → x.loc.isMemory = true → MayP B0 (isC T w) Sent x := by
  refine ⟨evF_cell _ _ hlt, fun x hx _ => ?_⟩
  rw [ofEvent_cell0] at hx
  simp only [MemAct.touch?, Option.some.injEq] at hx
  subst hx
  exact ⟨b, rfl, .inl ⟨rfl, hB⟩⟩
theorem HB.ev (h : HB B0 c T Sent g w0 cs w) (j : Nat) (wr : Bool) :
    EvF w.heap.size ⟨.cell ⟨g, j, none⟩, wr, false⟩ ∧ ∀ x, (MemAct.ofEvent ⟨.cell ⟨g, j, none⟩, wr, false⟩).touch? = some x → x.loc.isMemory = true → MayP B0 (isC T w) Sent x :=
  evP_own h.low (heap_low h.blk) h.notC h.uns

/-- A store into a block of the sender's own. -/
theorem dp_store {b j : Nat} {cs : Array Value} {t : TypeId} (v : Value) (hb : InC w b cs t) (hB : B0 ≤ b) (hT : ∀ cs, ¬ T cs t b) (hS : ¬ Sent b) :
    DP B0 T Sent w (w.setCell ⟨b, j, none⟩ v) #[⟨.cell ⟨b, j, none⟩, true, false⟩] := by
  have hsz : (w.setCell ⟨b, j, none⟩ v).heap.size = w.heap.size := by simp [World.setCell]
  have hoth : ∀ k, k ≠ b → (w.setCell ⟨b, j, none⟩ v).heap[k]? = w.heap[k]? := fun k hk => heap_setCell_other w ⟨b, j, none⟩ k v hk
  have hsame : (w.setCell ⟨b, j, none⟩ v).heap[b]? = some (.cells (cs.setIfInBounds j v) t (0, 0)) := heap_setCell_same w b j cs t v hb
  have hn : ¬ isC T (w.setCell ⟨b, j, none⟩ v) b := not_isC hsame hT
  refine ⟨⟨rfl, rfl, rfl, Nat.le_of_eq hsz.symm, fun k hk => ?_⟩, fun k hk hx => hoth k ?_, fun e he => ?_⟩
  · by_cases e : k = b
    · subst e; exact ⟨fun x => absurd x hn, fun x => absurd x (not_isC hb hT)⟩
    · unfold isC; rw [hoth k e]
  · rintro rfl
    rcases hx with h | h | h
    · omega
    · exact not_isC hb hT h
    · exact hS h
  · simp only [List.mem_toArray, List.mem_cons, List.not_mem_nil, or_false] at he
    subst he
    exact evP_own hB (by rw [hsz]; exact heap_low hb) hn hS
theorem dp_load {b j : Nat} (h : EvF w.heap.size ⟨.cell ⟨b, j, none⟩, false, false⟩ ∧ ∀ x, (MemAct.ofEvent ⟨.cell ⟨b, j, none⟩, false, false⟩).touch? = some x → x.loc.isMemory = true → MayP B0 (isC T w) Sent x) :
    DP B0 T Sent w w #[⟨.cell ⟨b, j, none⟩, false, false⟩] := by
  refine ⟨Grow.refl T w, fun _ _ _ => rfl, fun e he => ?_⟩
  simp only [List.mem_toArray, List.mem_cons, List.not_mem_nil, or_false] at he
  subst he
  exact h
/-- Two steps in one. -/
theorem DP.comp {w' w'' : World} {es es' : Array Event} (h : DP B0 T Sent w w' es) (h' : DP B0 T Sent w' w'' es') : DP B0 T Sent w w'' (es ++ es') := by
  refine ⟨h.1.trans h'.1, fun k hk hx => (h'.2.1 k (Nat.lt_of_lt_of_le hk h.1.size) (hx.imp id fun y => y.imp (h.1.cls k hk).2 id)).trans (h.2.1 k hk hx), fun e he => ?_⟩
  rcases Array.mem_append.1 he with he | he
  · obtain ⟨h1, h2⟩ := h.2.2 e he
    refine ⟨h1.mono h'.1.size, fun x hx hm => ?_⟩
    obtain ⟨b, hb, hc⟩ := h2 x hx hm
    have hlt : b < w'.heap.size := low_block h1.2.2 hx hb
    exact ⟨b, hb, hc.imp id fun ⟨y1, y2, y3⟩ => ⟨y1, fun z => y2 ((h'.1.cls b hlt).1 z), y3⟩⟩
  · exact h'.2.2 e he
theorem HB.store (h : HB B0 c T Sent g w0 cs w) (j : Nat) (v : Value) : DP B0 T Sent w (w.setCell ⟨g, j, none⟩ v) #[⟨.cell ⟨g, j, none⟩, true, false⟩] := dp_store v h.blk h.low h.cls h.uns
theorem HB.store2 (h : HB B0 c T Sent g w0 cs w) (j k : Nat) (v u : Value) : DP B0 T Sent w ((w.setCell ⟨g, j, none⟩ v).setCell ⟨g, k, none⟩ u) #[⟨.cell ⟨g, j, none⟩, true, false⟩, ⟨.cell ⟨g, k, none⟩, true, false⟩] :=
  (h.store j v).comp ((h.put j v).store k u)
/-- What keep writes. -/
theorem gC_keep (x : DLink) (p0 p1 : Value) (pad' : List Value) (hl : (p0 :: p1 :: pad').length = 32 - 2 * ls.length) (hf : ls.length < 16) :
    ((((gC s c ls (p0 :: p1 :: pad')).set 33 (.int .i64 ((ls.length : Int) + 1))).set (1 + ls.length * 2) (.int .u8 (x.In.toNat : Int))).set (1 + ls.length * 2 + 1) (.int .u8 (x.Out.toNat : Int))) = gC s c (ls ++ [x]) pad' := by
  have h1 := lkV_len ls
  unfold gC
  rw [List.flatMap_append, List.length_append]
  generalize ls.flatMap lkV = C at *
  simp only [List.length_cons] at hl
  have e33 : 33 = (C.length + (pad'.length + 2)) + 1 := by omega
  have e2 : 1 + ls.length * 2 = (C.length + 0) + 1 := by omega
  have e3 : 1 + ls.length * 2 + 1 = (C.length + 1) + 1 := by omega
  rw [e3, e2, show (33 : Nat) = (C.length + (pad'.length + 2)) + 1 from e33]
  rw [List.set_cons_succ, List.set_cons_succ, List.set_cons_succ]
  rw [List.set_append_right _ _ (by omega), Nat.add_sub_cancel_left, List.set_append_right _ _ (by omega), Nat.sub_self, List.set_append_right _ _ (by omega), Nat.add_sub_cancel_left]
  have e : ((p0 :: p1 :: pad') ++ [Value.int .i64 (ls.length : Int), .chan (some c)]).set (pad'.length + 2) (.int .i64 ((ls.length : Int) + 1)) = (p0 :: p1 :: pad') ++ [.int .i64 ((ls.length : Int) + 1), .chan (some c)] := by
    rw [List.set_append_right _ _ (by simp)]
    simp
  rw [e]
  simp [lkV]
theorem gC_room (p0 p1 u : Value) (pad' : List Value) (hl : (p0 :: p1 :: pad').length = 32 - 2 * ls.length) (hf : ls.length < 16) :
    ((gC s c ls (p0 :: p1 :: pad')).set 33 u)[1 + ls.length * 2]? = some p0 ∧ ∀ y, (((gC s c ls (p0 :: p1 :: pad')).set 33 u).set (1 + ls.length * 2) y)[1 + ls.length * 2 + 1]? = some p1 := by
  have h1 := lkV_len ls
  have hp : (gC s c ls (p0 :: p1 :: pad'))[1 + ls.length * 2]? = some p0 ∧ (gC s c ls (p0 :: p1 :: pad'))[1 + ls.length * 2 + 1]? = some p1 := by
    unfold gC
    rw [show 1 + ls.length * 2 = 2 * ls.length + 1 by omega]
    refine ⟨?_, ?_⟩
    · rw [List.getElem?_cons_succ, List.getElem?_append_right (by omega), h1, Nat.sub_self]; rfl
    · rw [List.getElem?_cons_succ, List.getElem?_append_right (by omega), h1, show 2 * ls.length + 1 - 2 * ls.length = 1 by omega]; rfl
  refine ⟨?_, fun y => ?_⟩
  · rw [List.getElem?_set_ne (by omega)]; exact hp.1
  · rw [List.getElem?_set_ne (by omega), List.getElem?_set_ne (by omega)]; exact hp.2
end
end Go.Proofs.Ytlkhknoaifbajaa

/- THE SENDER's WALK: keep. -/
namespace Go.Proofs.Ytlkhknoaifbajaa
open Go.Conc Go.RowKit M
set_option linter.unusedVariables false
set_option linter.unusedSimpArgs false
set_option maxRecDepth 100000

section
variable {B0 c : Nat} {T : Cls} {Sent : Nat → Prop} {s : ByteArray} {g : Nat}
theorem ldP : LetsDraw (DP B0 T Sent) := fun w => ⟨⟨rfl, rfl, rfl, Nat.le_refl _, fun _ _ => Iff.rfl⟩, fun _ _ _ => rfl, by simp⟩
theorem odP (w : World) : RelyP B0 c T w { w with drawn := w.drawn + 1 } := RelyP.at w _
set_option maxHeartbeats 2000000 in
theorem keep_c : ∃ n, ∀ (Sent : Nat → Prop) (b : UInt8) (ls : List DLink) (pad : List Value) (w0 w : World), ls.length < 16 → pad.length = 32 - 2 * ls.length → HB B0 c T Sent g w0 (gC s c ls pad) w →
    CallsC Try.prog false (RelyP B0 c T) (DP B0 T Sent) 85 #[.pointer (some ⟨g, 1, none⟩), .int .u8 (b.toNat : Int)] n w fun v w' =>
      v = .pointer (some ⟨g, 1 + ls.length * 2, none⟩) ∧ ∃ pad', pad'.length = 32 - 2 * (ls ++ [(⟨b, b⟩ : DLink)]).length ∧ HB B0 c T Sent g w0 (gC s c (ls ++ [⟨b, b⟩]) pad') w' := by
  co_apply Exists.intro
  intro Sent b ls pad w0 w hlt hpl hF
  have Tm := termsP B0 c T Sent
  have hfit : ls.length ≤ 16 := by omega
  obtain ⟨p0, p1, pad', rfl⟩ : ∃ p0 p1 pad', pad = p0 :: p1 :: pad' := by
    match pad, hpl with
    | [], h => exact absurd h (by simp; omega)
    | [x], h => exact absurd h (by simp; omega)
    | x :: y :: l, _ => exact ⟨x, y, l, rfl⟩
  have hroom := fun u => gC_room (s := s) (c := c) p0 p1 u pad' hpl hlt
  have hkeep := gC_keep (s := s) (c := c) ⟨b, b⟩ p0 p1 pad' hpl hlt
  co_apply callsC_of_wpC Try.func85 (by rfl) rfl
  simp only [Try.ntmps85, List.size_toArray, List.length_cons, List.length_nil, Nat.reduceAdd, Nat.reduceSub, Array.replicate_succ, Array.replicate_zero, List.push_toArray, List.append_toArray, List.nil_append, List.cons_append]
  have h16 : ((ls.length : Int) == 16) = false := by simp; omega
  co_stmt Tm HB.rely hF (co_quiet Tm)
  co_apply wpC_seq Tm
  co_apply wpC_seq Tm
  co_reg Tm
  co_op HB.rely hF (co_quiet Tm)
  co_opw HB.rely hF (skip) (co_still Tm)
  co_opw HB.rely hF (skip) (co_still Tm)
  co_opw HB.rely hF (have hc := hF.used hpl hfit) (refine ⟨Grow.refl _ _, fun _ _ _ => rfl, ?_⟩; co_evs (exact hF.ev _ _))
  clear hc
  co_opw HB.rely hF (skip) (co_still Tm)
  co_apply opsC_nil Tm
  co_then
  have hlt' : (ls.length : Int) < 16 := by omega
  have hge' : (0 : Int) ≤ (ls.length : Int) := by omega
  co_apply wpC_cond Tm (t := false) (by rfl)
  simp only [Bool.false_eq_true, if_false]
  co_go Tm HB.rely hF (co_quiet Tm)
  co_held Tm ldP odP (HB B0 c T Sent g w0 (gC s c ls (p0 :: p1 :: pad'))) HB.rely hF
  co_take 0 Tm HB.rely hF hw (skip) (co_quiet Tm)
  co_take 1 Tm HB.rely hF hw (skip) (co_quiet Tm)
  co_take 2 Tm HB.rely hF hw (skip) (co_still Tm)
  co_take 3 Tm HB.rely hF hw (skip) (co_still Tm)
  co_take 4 Tm HB.rely hF hw (have hc := hw.used hpl hfit) (refine ⟨Grow.refl _ _, fun _ _ _ => rfl, ?_⟩; co_evs (exact hw.ev _ _))
  co_take 5 Tm HB.rely hF hw (skip) (co_still Tm)
  co_take 6 Tm HB.rely hF hw (skip) (co_still Tm)
  have hix := fun w es => events_indexAt_array (P := Try.prog) (w := w) (es := es) 67 65 16 ⟨g, 1, none⟩ .i64 (ls.length : Int) Try.underlying67 ⟨hge', by simpa using hlt'⟩
  co_take 7 Tm HB.rely hF hw (skip) (co_still Tm)
  clear hix
  co_take 8 Tm HB.rely hF hw (skip) (co_quiet Tm)
  co_done
  -- one link more
  have hu1 : IntKind.i64.wrap ((ls.length : Int) + 1) = (ls.length : Int) + 1 := by rw [IntKind.wrap_i64]; omega
  co_apply wpC_seq Tm
  co_reg Tm
  co_op HB.rely hF (co_quiet Tm)
  co_opw HB.rely hF (skip) (co_still Tm)
  co_opw HB.rely hF (skip) (co_still Tm)
  co_opw HB.rely hF (have hc := hF.used hpl hfit) (refine ⟨Grow.refl _ _, fun _ _ _ => rfl, ?_⟩; co_evs (exact hF.ev _ _))
  clear hc
  co_op HB.rely hF (co_quiet Tm)
  co_opw HB.rely hF (skip) (co_still Tm)
  co_opw HB.rely hF (skip) (co_still Tm)
  co_opw HB.rely hF (have hc := hF.used hpl hfit; have hz := hF.free 33) (have hd := hF.store 33 (.int .i64 ((ls.length : Int) + 1)); refine ⟨hd.1, hd.2.1, ?_⟩; co_evs (exact hd.2.2 _ (by simp)))
  clear hc hz
  replace hF := hF.put 33 (.int .i64 ((ls.length : Int) + 1))
  co_apply opsC_nil Tm
  co_then
  -- the link
  co_apply wpC_seq Tm
  co_reg Tm
  co_op HB.rely hF (co_quiet Tm)
  co_op HB.rely hF (co_quiet Tm)
  co_op HB.rely hF (co_quiet Tm)
  co_op HB.rely hF (co_quiet Tm)
  co_opw HB.rely hF (skip) (co_still Tm)
  co_opw HB.rely hF (have hc := hF.cell (1 + ls.length * 2) (hroom _).1; have hc2 := (hF.put (1 + ls.length * 2) (.int .u8 (b.toNat : Int))).cell (1 + ls.length * 2 + 1) ((hroom _).2 _); have hz := hF.free (1 + ls.length * 2); have hz2 := (hF.put (1 + ls.length * 2) (.int .u8 (b.toNat : Int))).free (1 + ls.length * 2 + 1)) (have hd := hF.store2 (1 + ls.length * 2) (1 + ls.length * 2 + 1) (.int .u8 (b.toNat : Int)) (.int .u8 (b.toNat : Int)); refine ⟨hd.1, hd.2.1, ?_⟩; intro e he; have hm := mem_listed he; simp [go_sem, *] at hm; rcases hm with rfl | rfl <;> exact hd.2.2 _ (by simp))
  clear hc hc2 hz hz2
  replace hF := (hF.put (1 + ls.length * 2) (.int .u8 (b.toNat : Int))).put (1 + ls.length * 2 + 1) (.int .u8 (b.toNat : Int))
  rw [hkeep] at hF
  co_apply opsC_nil Tm
  co_then
  co_go Tm HB.rely hF (co_quiet Tm)
  refine ⟨rfl, _, resultsC_tmp (by rfl) _, by simp, pad', ?_, hF⟩
  simp only [List.length_cons, List.length_append, List.length_nil] at hpl ⊢
  omega
end
end Go.Proofs.Ytlkhknoaifbajaa

/- THE SENDER's WALK: edit. -/
namespace Go.Proofs.Ytlkhknoaifbajaa
open Go.Conc Go.RowKit M
set_option linter.unusedVariables false
set_option linter.unusedSimpArgs false
set_option maxRecDepth 100000

section
variable {B0 c : Nat} {T : Cls} {Sent : Nat → Prop} {s : ByteArray} {g : Nat}
theorem gC_last (ls : List DLink) (x : DLink) (pad : List Value) : (gC s c (ls ++ [x]) pad)[1 + ls.length * 2]? = some (.int .u8 (x.In.toNat : Int)) ∧ (gC s c (ls ++ [x]) pad)[1 + ls.length * 2 + 1]? = some (.int .u8 (x.Out.toNat : Int)) := by
  have h1 := lkV_len ls
  unfold gC
  rw [List.flatMap_append, List.append_assoc, show 1 + ls.length * 2 = 2 * ls.length + 1 by omega]
  refine ⟨?_, ?_⟩
  · rw [List.getElem?_cons_succ, List.getElem?_append_right (by omega), h1, Nat.sub_self]; rfl
  · rw [List.getElem?_cons_succ, List.getElem?_append_right (by omega), h1, show 2 * ls.length + 1 - 2 * ls.length = 1 by omega]; rfl
theorem gC_in (ls : List DLink) (x : DLink) (pad : List Value) (v : UInt8) : (gC s c (ls ++ [x]) pad).set (1 + ls.length * 2) (.int .u8 (v.toNat : Int)) = gC s c (ls ++ [⟨v, x.Out⟩]) pad := by
  have h1 := lkV_len ls
  unfold gC
  rw [List.flatMap_append, List.append_assoc, show 1 + ls.length * 2 = 2 * ls.length + 1 by omega, List.set_cons_succ, List.set_append_right _ _ (by omega), h1, Nat.sub_self, List.flatMap_append, List.append_assoc]
  simp [lkV]
theorem gC_out (ls : List DLink) (x : DLink) (pad : List Value) (v : UInt8) : (gC s c (ls ++ [x]) pad).set (1 + ls.length * 2 + 1) (.int .u8 (v.toNat : Int)) = gC s c (ls ++ [⟨x.In, v⟩]) pad := by
  have h1 := lkV_len ls
  unfold gC
  rw [List.flatMap_append, List.append_assoc, show 1 + ls.length * 2 = 2 * ls.length + 1 by omega, List.set_cons_succ, List.set_append_right _ _ (by omega), h1, show 2 * ls.length + 1 - 2 * ls.length = 1 by omega, List.flatMap_append, List.append_assoc]
  simp [lkV]

/-- The link that a sound with a sign becomes. -/
def edV (b k : UInt8) : DLink := if k = 43 then ⟨0, b⟩ else if k = 45 then ⟨b, 0⟩ else if k = 42 then ⟨b, byt (swapV (b.toNat : Int))⟩ else ⟨b, b⟩

set_option maxHeartbeats 2000000 in
theorem edit0_c : ∃ n, ∀ (Sent : Nat → Prop) (b : UInt8) (ls : List DLink) (pad : List Value) (w0 w : World), HB B0 c T Sent g w0 (gC s c (ls ++ [⟨b, b⟩]) pad) w →
    CallsC Try.prog false (RelyP B0 c T) (DP B0 T Sent) 97 #[.pointer (some ⟨g, 1 + ls.length * 2, none⟩), .int .u8 0] n w fun v w' => HB B0 c T Sent g w0 (gC s c (ls ++ [⟨b, b⟩]) pad) w' := by
  co_apply Exists.intro
  intro Sent b ls pad w0 w hF
  have Tm := termsP B0 c T Sent
  co_apply callsC_of_wpC Try.func97 (by rfl) rfl
  simp only [Try.ntmps97, List.size_toArray, List.length_cons, List.length_nil, Nat.reduceAdd, Nat.reduceSub, Array.replicate_succ, Array.replicate_zero, List.push_toArray, List.append_toArray, List.nil_append, List.cons_append]
  co_go Tm HB.rely hF (co_quiet Tm)
  co_apply wpC_cond Tm (t := false) (by rfl)
  simp only [Bool.false_eq_true, if_false]
  co_go Tm HB.rely hF (co_quiet Tm)
  co_apply wpC_cond Tm (t := false) (by rfl)
  simp only [Bool.false_eq_true, if_false]
  co_go Tm HB.rely hF (co_quiet Tm)
  co_apply wpC_cond Tm (t := false) (by rfl)
  simp only [Bool.false_eq_true, if_false]
  co_go Tm HB.rely hF (co_quiet Tm)
  exact ⟨rfl, _, resultsC_none (by rfl) _, hF⟩
set_option maxHeartbeats 2000000 in
theorem edit43_c : ∃ n, ∀ (Sent : Nat → Prop) (b : UInt8) (ls : List DLink) (pad : List Value) (w0 w : World), HB B0 c T Sent g w0 (gC s c (ls ++ [⟨b, b⟩]) pad) w →
    CallsC Try.prog false (RelyP B0 c T) (DP B0 T Sent) 97 #[.pointer (some ⟨g, 1 + ls.length * 2, none⟩), .int .u8 43] n w fun v w' => HB B0 c T Sent g w0 (gC s c (ls ++ [⟨0, b⟩]) pad) w' := by
  co_apply Exists.intro
  intro Sent b ls pad w0 w hF
  have Tm := termsP B0 c T Sent
  co_apply callsC_of_wpC Try.func97 (by rfl) rfl
  simp only [Try.ntmps97, List.size_toArray, List.length_cons, List.length_nil, Nat.reduceAdd, Nat.reduceSub, Array.replicate_succ, Array.replicate_zero, List.push_toArray, List.append_toArray, List.nil_append, List.cons_append]
  co_go Tm HB.rely hF (co_quiet Tm)
  co_apply wpC_cond Tm (t := true) (by rfl)
  simp only [if_true]
  co_reg Tm
  co_op HB.rely hF (co_quiet Tm)
  co_opw HB.rely hF (skip) (co_still Tm)
  co_opw HB.rely hF (skip) (co_still Tm)
  co_opw HB.rely hF (have hc := hF.cell (1 + ls.length * 2) (gC_last _ _ _).1; have hz := hF.free (1 + ls.length * 2)) (have hd := hF.store (1 + ls.length * 2) (.int .u8 0); refine ⟨hd.1, hd.2.1, ?_⟩; co_evs (exact hd.2.2 _ (by simp)))
  clear hc hz
  replace hF := hF.put (1 + ls.length * 2) (.int .u8 (((0 : UInt8).toNat : Nat) : Int))
  rw [gC_in] at hF
  co_go Tm HB.rely hF (co_quiet Tm)
  exact ⟨rfl, _, resultsC_none (by rfl) _, hF⟩
set_option maxHeartbeats 2000000 in
theorem edit45_c : ∃ n, ∀ (Sent : Nat → Prop) (b : UInt8) (ls : List DLink) (pad : List Value) (w0 w : World), HB B0 c T Sent g w0 (gC s c (ls ++ [⟨b, b⟩]) pad) w →
    CallsC Try.prog false (RelyP B0 c T) (DP B0 T Sent) 97 #[.pointer (some ⟨g, 1 + ls.length * 2, none⟩), .int .u8 45] n w fun v w' => HB B0 c T Sent g w0 (gC s c (ls ++ [⟨b, 0⟩]) pad) w' := by
  co_apply Exists.intro
  intro Sent b ls pad w0 w hF
  have Tm := termsP B0 c T Sent
  co_apply callsC_of_wpC Try.func97 (by rfl) rfl
  simp only [Try.ntmps97, List.size_toArray, List.length_cons, List.length_nil, Nat.reduceAdd, Nat.reduceSub, Array.replicate_succ, Array.replicate_zero, List.push_toArray, List.append_toArray, List.nil_append, List.cons_append]
  co_go Tm HB.rely hF (co_quiet Tm)
  co_apply wpC_cond Tm (t := false) (by rfl)
  simp only [Bool.false_eq_true, if_false]
  co_go Tm HB.rely hF (co_quiet Tm)
  co_apply wpC_cond Tm (t := true) (by rfl)
  simp only [if_true]
  co_reg Tm
  co_op HB.rely hF (co_quiet Tm)
  co_opw HB.rely hF (skip) (co_still Tm)
  co_opw HB.rely hF (skip) (co_still Tm)
  co_opw HB.rely hF (have hc := hF.cell (1 + ls.length * 2 + 1) (gC_last _ _ _).2; have hz := hF.free (1 + ls.length * 2 + 1)) (have hd := hF.store (1 + ls.length * 2 + 1) (.int .u8 0); refine ⟨hd.1, hd.2.1, ?_⟩; co_evs (exact hd.2.2 _ (by simp)))
  clear hc hz
  replace hF := hF.put (1 + ls.length * 2 + 1) (.int .u8 (((0 : UInt8).toNat : Nat) : Int))
  rw [gC_out] at hF
  co_go Tm HB.rely hF (co_quiet Tm)
  exact ⟨rfl, _, resultsC_none (by rfl) _, hF⟩
end
end Go.Proofs.Ytlkhknoaifbajaa

/- THE SENDER's WALK: edit of the voice. -/
namespace Go.Proofs.Ytlkhknoaifbajaa
open Go.Conc Go.RowKit M
set_option linter.unusedVariables false
set_option linter.unusedSimpArgs false
set_option maxRecDepth 100000

section
variable {B0 c : Nat} {T : Cls} {Sent : Nat → Prop} {s : ByteArray} {g : Nat}
theorem swapV_byt (b : UInt8) : ((byt (swapV (b.toNat : Int))).toNat : Int) = swapV (b.toNat : Int) := by
  have h : (b.toNat : Int) < 256 := by have := b.toNat_lt; omega
  refine byt_toNat _ ?_ ?_ <;> (unfold swapV; split <;> (try split) <;> (try split) <;> (try split) <;> omega)
set_option maxHeartbeats 2000000 in
theorem edit42_c : ∃ n, ∀ (Sent : Nat → Prop) (b : UInt8) (ls : List DLink) (pad : List Value) (w0 w : World), HB B0 c T Sent g w0 (gC s c (ls ++ [⟨b, b⟩]) pad) w →
    CallsC Try.prog false (RelyP B0 c T) (DP B0 T Sent) 97 #[.pointer (some ⟨g, 1 + ls.length * 2, none⟩), .int .u8 42] n w fun v w' => HB B0 c T Sent g w0 (gC s c (ls ++ [⟨b, byt (swapV (b.toNat : Int))⟩]) pad) w' := by
  obtain ⟨nsw, hsw⟩ := swap_c
  co_apply Exists.intro
  intro Sent b ls pad w0 w hF
  have Tm := termsP B0 c T Sent
  co_apply callsC_of_wpC Try.func97 (by rfl) rfl
  simp only [Try.ntmps97, List.size_toArray, List.length_cons, List.length_nil, Nat.reduceAdd, Nat.reduceSub, Array.replicate_succ, Array.replicate_zero, List.push_toArray, List.append_toArray, List.nil_append, List.cons_append]
  co_go Tm HB.rely hF (co_quiet Tm)
  co_apply wpC_cond Tm (t := false) (by rfl)
  simp only [Bool.false_eq_true, if_false]
  co_go Tm HB.rely hF (co_quiet Tm)
  co_apply wpC_cond Tm (t := false) (by rfl)
  simp only [Bool.false_eq_true, if_false]
  co_go Tm HB.rely hF (co_quiet Tm)
  co_apply wpC_cond Tm (t := true) (by rfl)
  simp only [if_true]
  co_reg Tm
  co_op HB.rely hF (co_quiet Tm)
  co_op HB.rely hF (co_quiet Tm)
  co_opw HB.rely hF (skip) (co_still Tm)
  co_opw HB.rely hF (skip) (co_still Tm)
  co_opw HB.rely hF (have hc := hF.cell (1 + ls.length * 2) (gC_last _ _ _).1) (refine ⟨Grow.refl _ _, fun _ _ _ => rfl, ?_⟩; co_evs (exact hF.ev _ _))
  clear hc
  co_apply opsC_call Tm rfl (by rfl) rfl
  · walk_nrm
    exact hsw _ _ _ Tm _ _
  rintro v w' ⟨rfl, hsi⟩
  have hF2 : HB B0 c T Sent g w0 (gC s c (ls ++ [⟨b, b⟩]) pad) w' := by
    rcases hsi with rfl | hr
    · exact hF
    · exact hF.rely hr
  clear hF hsi
  walk_nrm
  co_op HB.rely hF2 (co_quiet Tm)
  co_op HB.rely hF2 (co_quiet Tm)
  co_op HB.rely hF2 (co_quiet Tm)
  co_opw HB.rely hF2 (skip) (co_still Tm)
  co_opw HB.rely hF2 (skip) (co_still Tm)
  co_opw HB.rely hF2 (have hc := hF2.cell (1 + ls.length * 2 + 1) (gC_last _ _ _).2; have hz := hF2.free (1 + ls.length * 2 + 1)) (have hd := hF2.store (1 + ls.length * 2 + 1) (.int .u8 (swapV (b.toNat : Int))); refine ⟨hd.1, hd.2.1, ?_⟩; co_evs (exact hd.2.2 _ (by simp)))
  clear hc hz
  replace hF2 := hF2.put (1 + ls.length * 2 + 1) (.int .u8 (((byt (swapV (b.toNat : Int))).toNat : Nat) : Int))
  rw [gC_out, swapV_byt] at hF2
  co_go Tm HB.rely hF2 (co_quiet Tm)
  exact ⟨rfl, _, resultsC_none (by rfl) _, hF2⟩
end
end Go.Proofs.Ytlkhknoaifbajaa

/- THE SENDER's WALK: blocks of its own that it makes; candidate. -/
namespace Go.Proofs.Ytlkhknoaifbajaa
open Go.Conc Go.RowKit M
set_option linter.unusedVariables false
set_option linter.unusedSimpArgs false
set_option maxRecDepth 100000

/-- What the sender makes is never taken for the receiver's: rows of these two types never are; another block is not, if its number is not foretold to be the receiver's. -/
structure OkT (O : Nat → Prop) (T : Cls) : Prop where
  gen : ∀ cs b, ¬ T cs 105 b
  link : ∀ cs b, ¬ T cs 65 b
  own : ∀ cs t b, ¬ O b → ¬ T cs t b

section
variable (B0 c : Nat) (T : Cls) (Sent : Nat → Prop) (g : Nat)
/-- A block of the sender's own, other than the generator's. -/
structure ON (b : Nat) (cs : List Value) (t : TypeId) (w : World) : Prop where
  blk : InC w b cs.toArray t
  nc : ¬ T cs.toArray t b
  low : B0 ≤ b
  ne : b ≠ c
  neg : b ≠ g
  uns : ¬ Sent b
end
section
variable {B0 c : Nat} {T : Cls} {Sent : Nat → Prop} {s : ByteArray} {g : Nat} {w0 w w₁ : World} {b : Nat} {cs gs : List Value} {t : TypeId}
theorem not_isC1 {b : Nat} {cs : Array Value} {t : TypeId} {fz : Nat × Nat} (h : w.heap[b]? = some (.cells cs t fz)) (hT : ¬ T cs t b) : ¬ isC T w b := by
  rintro ⟨cs', ty, fz', h', ht⟩
  rw [h] at h'
  obtain ⟨rfl, rfl, rfl⟩ := Obj.cells.inj (Option.some.inj h')
  exact hT ht
theorem ON.notC (h : ON B0 c T Sent g b cs t w) : ¬ isC T w b := not_isC1 h.blk h.nc
theorem ON.lt (h : ON B0 c T Sent g b cs t w) : b < w.heap.size := heap_low h.blk
theorem ON.rely (h : ON B0 c T Sent g b cs t w) (r : RelyP B0 c T w w₁) : ON B0 c T Sent g b cs t w₁ :=
  ⟨(r.2 b (heap_low h.blk) h.ne (.inr h.notC)).trans h.blk, h.nc, h.low, h.ne, h.neg, h.uns⟩
theorem ON.cell (h : ON B0 c T Sent g b cs t w) (j : Nat) {u : Value} (hu : cs[j]? = some u) : w.cell? ⟨b, j, none⟩ = some u := InC.cell h.blk j (by simpa using hu)
theorem ON.free (h : ON B0 c T Sent g b cs t w) (j : Nat) : w.frozen? ⟨b, j, none⟩ = false := InC.free h.blk j
theorem ON.ev (h : ON B0 c T Sent g b cs t w) (j : Nat) (wr : Bool) :
    EvF w.heap.size ⟨.cell ⟨b, j, none⟩, wr, false⟩ ∧ ∀ x, (MemAct.ofEvent ⟨.cell ⟨b, j, none⟩, wr, false⟩).touch? = some x → x.loc.isMemory = true → MayP B0 (isC T w) Sent x := evP_own h.low h.lt h.notC h.uns
/-- A block is made. -/
theorem dp_alloc (o : Obj) (hT : ∀ cs t fz, o = .cells cs t fz → ¬ T cs t w.heap.size) : DP B0 T Sent w (w.alloc o) #[] := by
  refine ⟨⟨rfl, rfl, rfl, by simp, fun k hk => ?_⟩, fun k hk _ => heap_alloc_old w o hk, by simp⟩
  unfold isC; rw [heap_alloc_old w o hk]
theorem kp_alloc (o : Obj) : Kp B0 c T g w (w.alloc o) := by
  refine ⟨⟨rfl, rfl, rfl, by simp, fun k hk => ?_⟩, fun k hk _ _ _ => heap_alloc_old w o hk⟩
  unfold isC; rw [heap_alloc_old w o hk]
theorem HB.alloc (h : HB B0 c T Sent g w0 gs w) (o : Obj) : HB B0 c T Sent g w0 gs (w.alloc o) :=
  ⟨(heap_alloc_old w o (heap_low h.blk)).trans h.blk, h.low, h.ne, h.uns, h.cls, h.chn, h.kp.trans (kp_alloc o)⟩
theorem ON.alloc (h : ON B0 c T Sent g b cs t w) (o : Obj) : ON B0 c T Sent g b cs t (w.alloc o) :=
  ⟨(heap_alloc_old w o h.lt).trans h.blk, h.nc, h.low, h.ne, h.neg, h.uns⟩
theorem ON.new (hB : B0 ≤ w.heap.size) (hc : c < w.heap.size) (hg : g < w.heap.size) (hS : ∀ b, Sent b → b < w.heap.size) (hT : ¬ T cs.toArray t w.heap.size) : ON B0 c T Sent g w.heap.size cs t (w.alloc (.cells cs.toArray t)) :=
  ⟨heap_alloc_new w _, hT, hB, by omega, by omega, fun h => by have := hS _ h; omega⟩
end
end Go.Proofs.Ytlkhknoaifbajaa

/- THE SENDER's WALK: the copy of a row of links. -/
namespace Go.Proofs.Ytlkhknoaifbajaa
open Go.Conc Go.RowKit M
set_option linter.unusedVariables false
set_option linter.unusedSimpArgs false
set_option maxRecDepth 100000

section
variable {P : Program}
theorem run_copy_rowP (w : World) (dT sT ty elem : TypeId) (g dLen dCap : Nat) (a : Addr) (sLen sCap : Nat) (cur : Array Value) (t : TypeId) (cs : List Value)
    (hu : P.underlying dT = some (.slice elem)) (hs : (P.info? elem).map (·.size) = some 2)
    (hg : w.heap[g]? = some (.cells cur t (0, 0))) (hn : cs.length = Nat.min sLen dLen * 2)
    (hsrc : ∀ j v, cs[j]? = some v → w.cell? (a.add j) = some v) (hfit : cs.length = cur.size) (h1 : ∀ v ∈ cs, v.oneCell' = true) :
    (Builtin.copy_ #[dT, sT] ty #[.slice (some ⟨g, 0, none⟩) dLen dCap, .slice (some a) sLen sCap]).run P w = .ok (goInt (Nat.min sLen dLen)) (w.setRow g cs.toArray) ∧
    ∀ ev ∈ (Builtin.copy_ #[dT, sT] ty #[.slice (some ⟨g, 0, none⟩) dLen dCap, .slice (some a) sLen sCap]).events P w #[], ∃ ad, ev.loc = .cell ad ∧ ((ev.write = false ∧ ad.block = a.block) ∨ ad.block = g) := by
  have hl := run_loadCells_list (P := P) w a cs hsrc
  have hst := run_storeCells_at P g 0 t cs 0 cur w hg (by simp; omega) h1
  have hev := fun es => events_storeCells_at (P := P) g 0 t cs 0 cur w es hg (by simp; omega) h1
  have hel : ∀ ev ∈ (loadCells a cs.length).events P w #[], ev.readsIn (· = a.block) := fun ev h => by
    rcases events_loadCellsFrom_at a (· = a.block) rfl _ 0 _ w #[] (fun j hj => isSome_of_list hsrc (by simpa using hj)) ev h with h | h
    · simp at h
    · exact h
  have e : (cur.toList.take (0 + 0) ++ cs ++ cur.toList.drop (0 + 0 + cs.length)).toArray = cs.toArray := by
    rw [hfit]; simp
  rw [e] at hst
  cases hq : P.info? elem with
  | none => simp [hq] at hs
  | some i =>
    have hi : i.size = 2 := by simpa [hq] using hs
    refine ⟨by simp [Builtin.copy_, run_underlying hu, Builtin.lenOf, Builtin.firstCells, sizeOf, typeInfo, hq, hi, ← hn, hl, hst], fun ev h => ?_⟩
    simp [Builtin.copy_, run_underlying hu, Builtin.lenOf, Builtin.firstCells, sizeOf, typeInfo, hq, hi, ← hn, hl, hst, Sem.events_bind] at h
    rcases hev _ ev h with h | ⟨ad, h1, h2⟩
    · obtain ⟨ad, h1, h2, h3⟩ := hel ev h
      exact ⟨ad, h1, .inl ⟨h2, h3⟩⟩
    · exact ⟨ad, h1, .inr h2⟩
end
end Go.Proofs.Ytlkhknoaifbajaa

/- THE SENDER's WALK: candidate. -/
namespace Go.Proofs.Ytlkhknoaifbajaa
open Go.Conc Go.RowKit M
set_option linter.unusedVariables false
set_option linter.unusedSimpArgs false
set_option maxRecDepth 100000

section
variable {B0 c : Nat} {T : Cls} {Sent : Nat → Prop} {s : ByteArray} {g : Nat} {w0 w w₁ : World} {b q r : Nat} {cs gs qs rs : List Value} {t : TypeId}
/-- A step that writes one block of the sender's own. -/
theorem dp_write {cs cs' : Array Value} {t : TypeId} {w' : World} {es : Array Event} (hsz : w'.heap.size = w.heap.size) (hsame : InC w' b cs' t) (hoth : ∀ k, k ≠ b → w'.heap[k]? = w.heap[k]?) (htp : w'.tape = w.tape) (hos : w'.os = w.os) (hou : w'.output = w.output)
    (hb : InC w b cs t) (hB : B0 ≤ b) (hT : ¬ T cs t b) (hT' : ¬ T cs' t b) (hS : ¬ Sent b)
    (hes : ∀ e ∈ es, ∃ ad, e.loc = .cell ad ∧ (ad.block = b ∨ (B0 ≤ ad.block ∧ ad.block < w.heap.size ∧ ¬ isC T w ad.block ∧ ¬ Sent ad.block))) :
    DP B0 T Sent w w' es := by
  have hn : ¬ isC T w' b := not_isC1 hsame hT'
  have hcl : ∀ k, isC T w' k ↔ isC T w k := fun k => by
    by_cases e : k = b
    · subst e; exact ⟨fun x => absurd x hn, fun x => absurd x (not_isC1 hb hT)⟩
    · unfold isC; rw [hoth k e]
  refine ⟨⟨htp, hos, hou, Nat.le_of_eq hsz.symm, fun k _ => hcl k⟩, fun k hk hx => hoth k ?_, fun e he => ?_⟩
  · rintro rfl
    rcases hx with h | h | h
    · omega
    · exact not_isC1 hb hT h
    · exact hS h
  · obtain ⟨ad, hl, hx⟩ := hes e he
    obtain ⟨loc, wr, sy⟩ := e
    subst hl
    have hx' : B0 ≤ ad.block ∧ ad.block < w'.heap.size ∧ ¬ isC T w' ad.block ∧ ¬ Sent ad.block := by
      rcases hx with h | h
      · rw [h]; exact ⟨hB, by rw [hsz]; exact heap_low hb, hn, hS⟩
      · exact ⟨h.1, by rw [hsz]; exact h.2.1, fun z => h.2.2.1 ((hcl _).1 z), h.2.2.2⟩
    refine ⟨evF_cell _ _ hx'.2.1, fun x hx2 _ => ?_⟩
    have : x.loc = .cell ad := by
      cases wr <;> cases sy <;> (simp only [MemAct.ofEvent, MemAct.touch?, Option.some.injEq] at hx2; subst hx2; rfl)
    exact ⟨ad.block, by rw [this]; rfl, .inr ⟨hx'.1, hx'.2.2⟩⟩
theorem HB.ptw {w' : World} (h : HB B0 c T Sent g w0 gs w) (hsz : w'.heap.size = w.heap.size) (hoth : ∀ k, k ≠ b → w'.heap[k]? = w.heap[k]?) (htp : w'.tape = w.tape) (hos : w'.os = w.os) (hou : w'.output = w.output)
    (hb : w0.heap.size ≤ b) (hg : b ≠ g) : HB B0 c T Sent g w0 gs w' := by
  refine ⟨(hoth g (Ne.symm hg)).trans h.blk, h.low, h.ne, h.uns, h.cls, h.chn, ⟨⟨htp.trans h.kp.1.tape, hos.trans h.kp.1.os, hou.trans h.kp.1.output, by rw [hsz]; exact h.kp.1.size, fun k hk => ?_⟩, fun k hk hc hg' hx => (hoth k (by omega)).trans (h.kp.2 k hk hc hg' hx)⟩⟩
  rw [← h.kp.1.cls k hk]; unfold isC; rw [hoth k (by omega)]
theorem ON.ptw {w' : World} (h : ON B0 c T Sent g q cs t w) (hoth : ∀ k, k ≠ b → w'.heap[k]? = w.heap[k]?) (hb : b ≠ q) : ON B0 c T Sent g q cs t w' :=
  ⟨(hoth q (Ne.symm hb)).trans h.blk, h.nc, h.low, h.ne, h.neg, h.uns⟩
structure HQ (B0 c : Nat) (T : Cls) (Sent : Nat → Prop) (g : Nat) (w0 : World) (gs : List Value) (q : Nat) (qs : List Value) (w : World) : Prop where
  hb : HB B0 c T Sent g w0 gs w
  on : ON B0 c T Sent g q qs 26 w
  new : w0.heap.size ≤ q
theorem HQ.rely (h : HQ B0 c T Sent g w0 gs q qs w) (x : RelyP B0 c T w w₁) : HQ B0 c T Sent g w0 gs q qs w₁ := ⟨h.hb.rely x, h.on.rely x, h.new⟩
structure HR (B0 c : Nat) (T : Cls) (Sent : Nat → Prop) (g : Nat) (w0 : World) (gs : List Value) (q : Nat) (qs : List Value) (r : Nat) (rs : List Value) (w : World) : Prop where
  hq : HQ B0 c T Sent g w0 gs q qs w
  on : ON B0 c T Sent g r rs 65 w
  lt : q < r
theorem HR.rely (h : HR B0 c T Sent g w0 gs q qs r rs w) (x : RelyP B0 c T w w₁) : HR B0 c T Sent g w0 gs q qs r rs w₁ := ⟨h.hq.rely x, h.on.rely x, h.lt⟩
theorem setRow_size (w : World) (g : Nat) (cs : Array Value) : (w.setRow g cs).heap.size = w.heap.size := by simp [World.setRow]
/-- The row is filled. -/
theorem HR.fill (h : HR B0 c T Sent g w0 gs q qs r rs w) (hT : ∀ cs b, ¬ T cs 65 b) (cs : List Value) : HR B0 c T Sent g w0 gs q qs r cs (w.setRow r cs.toArray) := by
  have ho : ∀ k, k ≠ r → (w.setRow r cs.toArray).heap[k]? = w.heap[k]? := fun k hk => setRow_other w r k _ hk
  have hn : w0.heap.size ≤ r := Nat.le_of_lt (Nat.lt_of_le_of_lt h.hq.new h.lt)
  refine ⟨⟨h.hq.hb.ptw (setRow_size _ _ _) ho rfl rfl rfl hn h.on.neg, h.hq.on.ptw ho (by have := h.lt; omega), h.hq.new⟩, ⟨setRow_heap w r _ _ _ _ h.on.blk, hT _ _, h.on.low, h.on.ne, h.on.neg, h.on.uns⟩, h.lt⟩
theorem HR.fill_dp (h : HR B0 c T Sent g w0 gs q qs r rs w) (hT : ∀ cs b, ¬ T cs 65 b) (cs : List Value) {es : Array Event} (hes : ∀ ev ∈ es, ∃ ad, ev.loc = .cell ad ∧ ((ev.write = false ∧ ad.block = g) ∨ ad.block = r)) : DP B0 T Sent w (w.setRow r cs.toArray) es :=
  dp_write (b := r) (setRow_size _ _ _) (setRow_heap w r _ _ _ _ h.on.blk) (fun k hk => setRow_other w r k _ hk) rfl rfl rfl h.on.blk h.on.low (hT _ _) (hT _ _) h.on.uns fun e he => by
    obtain ⟨ad, h1, h2 | h2⟩ := hes e he
    · exact ⟨ad, h1, .inr (by rw [h2.2]; exact ⟨h.hq.hb.low, heap_low h.hq.hb.blk, h.hq.hb.notC, h.hq.hb.uns⟩)⟩
    · exact ⟨ad, h1, .inl h2⟩
/-- The result's cell is written. -/
theorem HR.put (h : HR B0 c T Sent g w0 gs q qs r rs w) (v : Value) (hT : ¬ T (qs.set 0 v).toArray 26 q) : HR B0 c T Sent g w0 gs q (qs.set 0 v) r rs (w.setCell ⟨q, 0, none⟩ v) := by
  have ho : ∀ k, k ≠ q → (w.setCell ⟨q, 0, none⟩ v).heap[k]? = w.heap[k]? := fun k hk => heap_setCell_other w ⟨q, 0, none⟩ k v hk
  have hsz : (w.setCell ⟨q, 0, none⟩ v).heap.size = w.heap.size := by simp [World.setCell]
  have hs := heap_setCell_same w q 0 _ _ v h.hq.on.blk
  rw [List.setIfInBounds_toArray] at hs
  exact ⟨⟨h.hq.hb.ptw hsz ho rfl rfl rfl h.hq.new h.hq.on.neg, ⟨hs, hT, h.hq.on.low, h.hq.on.ne, h.hq.on.neg, h.hq.on.uns⟩, h.hq.new⟩, h.on.ptw ho (by have := h.lt; omega), h.lt⟩
theorem HR.put_dp (h : HR B0 c T Sent g w0 gs q qs r rs w) (v : Value) (hT : ¬ T (qs.set 0 v).toArray 26 q) : DP B0 T Sent w (w.setCell ⟨q, 0, none⟩ v) #[⟨.cell ⟨q, 0, none⟩, true, false⟩] := by
  have hs := heap_setCell_same w q 0 _ _ v h.hq.on.blk
  rw [List.setIfInBounds_toArray] at hs
  exact dp_write (b := q) (by simp [World.setCell]) hs (fun k hk => heap_setCell_other w ⟨q, 0, none⟩ k v hk) rfl rfl rfl h.hq.on.blk h.hq.on.low h.hq.on.nc hT h.hq.on.uns fun e he => by
    simp at he; subst he; exact ⟨_, rfl, .inl rfl⟩
end
end Go.Proofs.Ytlkhknoaifbajaa

/- THE SENDER's WALK: code that sends. What is sent stands beside the judgement; the guarantee changes with every send. ('N': of no account; an elder judgement counted steps.) -/
namespace Go.Proofs.Ytlkhknoaifbajaa
open Go.Conc Go.RowKit M
set_option linter.unusedVariables false
set_option linter.unusedSimpArgs false
set_option maxRecDepth 100000

section
variable (P : Program) (B0 c : Nat) (T : Cls) (O : Nat → Prop) {α : Type} (Pay : α → Value → (Nat → Prop) → World → Prop)
def ItS (N : Nat → Nat) (fn : FuncId) (its : List Item) (xs : List α) (Sent : Nat → Prop) (Q : Exit → Act → World → (Nat → Prop) → Prop) (a : Act) (w : World) : Prop := ItG P (sideP P B0 c T O Pay) fn its xs Sent Q a w
def WS (N : Nat → Nat) (fn : FuncId) (x : Code) (xs : List α) (Sent : Nat → Prop) (Q : Exit → Act → World → (Nat → Prop) → Prop) (a : Act) (w : World) : Prop := ItS P B0 c T O Pay N fn [.code x] xs Sent Q a w
def OS (N : Nat → Nat) (fn : FuncId) (ops : Array Oper) (todo : List Nat) (xs : List α) (Sent : Nat → Prop) (Q : Exit → Act → World → (Nat → Prop) → Prop) (a : Act) (w : World) : Prop := ItS P B0 c T O Pay N fn [.inRegion ops todo] xs Sent Q a w
end

section
variable {P : Program} {B0 c : Nat} {T : Cls} {O : Nat → Prop} {α : Type} {Pay : α → Value → (Nat → Prop) → World → Prop} {fn : FuncId} {xs xs' : List α} {Sent : Nat → Prop} {Q Q' : Exit → Act → World → (Nat → Prop) → Prop} {a : Act} {w : World} {N N' : Nat → Nat}
theorem ItS.rely {its : List Item} {w₁ : World} (h : ItS P B0 c T O Pay N fn its xs Sent Q a w) (r : RelyP B0 c T w w₁) : ItS P B0 c T O Pay N fn its xs Sent Q a w₁ := ItG.rely sideP_ok h r
theorem ItS.mono {its : List Item} (h : ItS P B0 c T O Pay N fn its xs Sent Q a w) (hq : ∀ e a w S, Q e a w S → Q' e a w S) : ItS P B0 c T O Pay N fn its xs Sent Q' a w := ItG.mono h hq
theorem ItS.more {its : List Item} (h : ItS P B0 c T O Pay N fn its xs Sent Q a w) (hn : ∀ m, N m ≤ N' m) : ItS P B0 c T O Pay N' fn its xs Sent Q a w := h
/-- Code that sends nothing. -/
theorem ws_of_wpC {x : Code} {n : Nat} (h : x.wpC P false (RelyP B0 c T) (DP B0 T Sent) fn n (fun e a w => Q e a w Sent) a w) : WS P B0 c T O Pay (· + n) fn x [] Sent Q a w := g_of_wpC (S := sideP P B0 c T O Pay) sideP_ok h
theorem os_of_opsC {ops : Array Oper} {todo : List Nat} {n : Nat} (h : OpsC P false (RelyP B0 c T) (DP B0 T Sent) fn ops todo n (fun e a w => Q e a w Sent) a w) : OS P B0 c T O Pay (· + n) fn ops todo [] Sent Q a w := g_of_opsC (S := sideP P B0 c T O Pay) sideP_ok h
theorem ws_seq {x y : Code} (h : WS P B0 c T O Pay N fn x xs Sent (ThenS xs' (fun a' w' S' => WS P B0 c T O Pay N' fn y xs' S' Q a' w') Q) a w) : WS P B0 c T O Pay (fun m => N (max m (N' m)) + 1) fn (.seq x y) (xs ++ xs') Sent Q a w := g_seq (S := sideP P B0 c T O Pay) sideP_ok h
theorem ws_cond {o : Operand} {x y : Code} {t : Bool} (hc : a.eval o = .bool t) (h : WS P B0 c T O Pay N fn (if t then x else y) xs Sent Q a w) : WS P B0 c T O Pay (fun m => N m + 1) fn (.cond o x y) xs Sent Q a w := g_cond (S := sideP P B0 c T O Pay) sideP_ok hc h
theorem ws_region {id : Nat} {ops : Array Oper} (h : OS P B0 c T O Pay N fn ops (List.range ops.size) xs Sent Q a w) : WS P B0 c T O Pay (fun m => N m + 1) fn (.region id ops false) xs Sent Q a w := g_region (S := sideP P B0 c T O Pay) sideP_ok h
theorem os_nil {ops : Array Oper} (h : Q .normal a w Sent) : OS P B0 c T O Pay (fun m => m + 1) fn ops [] [] Sent Q a w := g_nil (S := sideP P B0 c T O Pay) sideP_ok h
theorem os_cons_k {ops : Array Oper} {i : Nat} {rest : List Nat} {o : Oper} (ho : ops[i]? = some o) (hw : Region.wanted o (yielded ops a.tmps) = true)
    (h : ∀ w₁, RelyP B0 c T w w₁ → ∀ K : Act → World → Prop, (∀ a' w', DP B0 T Sent w₁ w' (listed P fn a o w₁) ∧ OS P B0 c T O Pay N fn ops rest xs Sent Q a' w' → K a' w') → uponK o a K ((execOp a.eval o).run P w₁)) : OS P B0 c T O Pay (fun m => N m + 1) fn ops (i :: rest) xs Sent Q a w :=
  g_cons_k (S := sideP P B0 c T O Pay) ho hw h
/-- An operation that makes a block: its number is not foretold to be the receiver's. -/
theorem os_make {ops : Array Oper} {i : Nat} {rest : List Nat} {o : Oper} (ho : ops[i]? = some o) (hw : Region.wanted o (yielded ops a.tmps) = true)
    (h : ∀ w₁, RelyP B0 c T w w₁ → ∀ K : Act → World → Prop, (∀ a' w', w'.heap.size = w₁.heap.size + 1 → (¬ O w₁.heap.size → DP B0 T Sent w₁ w' (listed P fn a o w₁) ∧ OS P B0 c T O Pay N fn ops rest xs Sent Q a' w') → K a' w') → uponK o a K ((execOp a.eval o).run P w₁)) : OS P B0 c T O Pay (fun m => N m + 1) fn ops (i :: rest) xs Sent Q a w :=
  g_make (S := sideP P B0 c T O Pay) ho hw h
theorem ws_skip (h : Q .normal a w Sent) : WS P B0 c T O Pay (fun m => m + 1) fn .skip [] Sent Q a w := g_skip (S := sideP P B0 c T O Pay) sideP_ok h
theorem ws_ret (h : Q .ret a w Sent) : WS P B0 c T O Pay (fun m => m + 1) fn .ret [] Sent Q a w := g_ret (S := sideP P B0 c T O Pay) sideP_ok h
theorem ws_exit {id : Nat} (h : Q (.exit id) a w Sent) : WS P B0 c T O Pay (fun m => m + 1) fn (.exit id) [] Sent Q a w := g_exit (S := sideP P B0 c T O Pay) sideP_ok h
theorem ws_label {l : Nat} (h : Q .normal a w Sent) : WS P B0 c T O Pay (fun m => m + 1) fn (.label l) [] Sent Q a w := g_label (S := sideP P B0 c T O Pay) sideP_ok h
theorem ws_block {id : Nat} {x : Code} (h : WS P B0 c T O Pay N fn x xs Sent (InBlockS id Q) a w) : WS P B0 c T O Pay (fun m => N (m + 1) + 1) fn (.block id x) xs Sent Q a w := g_block (S := sideP P B0 c T O Pay) sideP_ok h
end
end Go.Proofs.Ytlkhknoaifbajaa

/- THE SENDER's WALK: calls that send; the send itself; a loop that sends. -/
namespace Go.Proofs.Ytlkhknoaifbajaa
open Go.Conc Go.RowKit M
set_option linter.unusedVariables false
set_option linter.unusedSimpArgs false
set_option maxRecDepth 100000

section
variable (P : Program) (B0 c : Nat) (T : Cls) (O : Nat → Prop) {α : Type} (Pay : α → Value → (Nat → Prop) → World → Prop)
def bodyPostS (fn : Func) (Post : Value → World → (Nat → Prop) → Prop) : Exit → Act → World → (Nat → Prop) → Prop
  | .normal, a, w, S | .ret, a, w, S => a.defers = [] ∧ ∃ v, ResultsC P fn a.tmps v ∧ Post v w S
  | _, _, _, _ => False
/-- A CONTRACT OF A FUNCTION THAT SENDS. -/
def CallsS (N : Nat → Nat) (f : FuncId) (args : Array Value) (xs : List α) (Sent : Nat → Prop) (Post : Value → World → (Nat → Prop) → Prop) (w : World) : Prop := CallsG P (sideP P B0 c T O Pay) f args xs Sent Post w
end

section
variable {P : Program} {B0 c : Nat} {T : Cls} {O : Nat → Prop} {α : Type} {Pay : α → Value → (Nat → Prop) → World → Prop} {fn : FuncId} {xs xs' : List α} {Sent : Nat → Prop} {Q : Exit → Act → World → (Nat → Prop) → Prop} {a : Act} {w : World} {N N' : Nat → Nat}
theorem callsS_of_ws {f : FuncId} {fn : Func} {x : Code} {args : Array Value} {Post : Value → World → (Nat → Prop) → Prop} (hf : P.funcs[f]? = some fn) (hname : (fn.name == "runtime.NumGoroutine") = false) (hb : fn.body = some x)
    (h : WS P B0 c T O Pay N f x xs Sent (bodyPostS P fn Post) { tmps := args ++ Array.replicate (fn.ntmps - args.size) undef, defers := [] } w) : CallsS P B0 c T O Pay N f args xs Sent Post w :=
  ⟨fn, x, hf, hname, hb, ItG.mono h fun e a w γ q => by
    cases e <;> first | exact ⟨q.1, q.2.choose, resultsM_of_C (sideP_ok.terms γ).idle q.2.choose_spec.1, q.2.choose_spec.2⟩ | exact q⟩
theorem CallsS.mono {f : FuncId} {args : Array Value} {Post Post' : Value → World → (Nat → Prop) → Prop} (h : CallsS P B0 c T O Pay N f args xs Sent Post w) (hp : ∀ v w S, Post v w S → Post' v w S) : CallsS P B0 c T O Pay N f args xs Sent Post' w := CallsG.mono h hp
/-- THROUGH A CALL THAT SENDS. -/
theorem os_callS {ops : Array Oper} {i : Nat} {rest : List Nat} {o : Oper} {f : FuncId} {args : Array Operand} {ats : Array TypeId} {Post : Value → World → (Nat → Prop) → Prop}
    (ho : ops[i]? = some o) (hw : Region.wanted o (yielded ops a.tmps) = true) (hop : o.op = .call { callee := .value (.func f), args, argTypes := ats })
    (hcall : CallsS P B0 c T O Pay N f (args.map a.eval) xs Sent Post w)
    (hnext : ∀ v w' S', Post v w' S' → OS P B0 c T O Pay N' fn ops rest xs' S' Q (a.put o.dst v) w') : OS P B0 c T O Pay (fun m => N (N' m + 2) + 1) fn ops (i :: rest) (xs ++ xs') Sent Q a w := g_call (S := sideP P B0 c T O Pay) sideP_ok ho hw hop hcall hnext
/-- Through a call that sends nothing, but makes blocks. -/
theorem os_callG {ops : Array Oper} {i : Nat} {rest : List Nat} {o : Oper} {f : FuncId} {args : Array Operand} {ats : Array TypeId} {Post : Value → World → (Nat → Prop) → Prop}
    (ho : ops[i]? = some o) (hw : Region.wanted o (yielded ops a.tmps) = true) (hop : o.op = .call { callee := .value (.func f), args, argTypes := ats })
    (hcall : CallsG P (sideP P B0 c T O Pay) f (args.map a.eval) [] Sent Post w)
    (hnext : ∀ v w' S', Post v w' S' → OS P B0 c T O Pay N fn ops rest xs S' Q (a.put o.dst v) w') : OS P B0 c T O Pay N' fn ops (i :: rest) xs Sent Q a w := g_call (S := sideP P B0 c T O Pay) (xs := []) sideP_ok ho hw hop hcall hnext
/-- Through a call that sends nothing. -/
theorem os_call {ops : Array Oper} {i : Nat} {rest : List Nat} {o : Oper} {f : FuncId} {args : Array Operand} {ats : Array TypeId} {nf : Nat} {Post : Value → World → Prop}
    (ho : ops[i]? = some o) (hw : Region.wanted o (yielded ops a.tmps) = true) (hop : o.op = .call { callee := .value (.func f), args, argTypes := ats })
    (hcall : CallsC P false (RelyP B0 c T) (DP B0 T Sent) f (args.map a.eval) nf w Post)
    (hnext : ∀ v w', Post v w' → OS P B0 c T O Pay N fn ops rest xs Sent Q (a.put o.dst v) w') : OS P B0 c T O Pay (fun m => N m + nf + 3) fn ops (i :: rest) xs Sent Q a w := g_callC (S := sideP P B0 c T O Pay) sideP_ok ho hw hop hcall hnext
/-- THE SEND. -/
theorem os_send {x : α} {ops : Array Oper} {i : Nat} {rest : List Nat} {o : Oper} (ho : ops[i]? = some o) (hw : Region.wanted o (yielded ops a.tmps) = true)
    (h : ∀ w₁, RelyP B0 c T w w₁ → ∃ v z' rows, (∀ d, (execOp a.eval o).run P (w₁.at d) = .ok (.comm #[scase c v z'] true .send) (w₁.at d) ∧ (execOp a.eval o).events P (w₁.at d) #[] = #[]) ∧ Pay x v rows w₁ ∧
      (∀ b, rows b → B0 ≤ b ∧ b < w₁.heap.size ∧ ¬ isC T w₁ b ∧ ¬ Sent b) ∧ ∀ w₂, RelyP B0 c T w₁ w₂ → ∃ N, OS P B0 c T O Pay N fn ops rest xs (fun b => Sent b ∨ rows b) Q (a.put o.dst undef) w₂) :
    OS P B0 c T O Pay (fun _ => 0) fn ops (i :: rest) (x :: xs) Sent Q a w :=
  g_send ho hw fun w₁ h₁ => by
    obtain ⟨v, z', rows, x1, x2, x3, x4⟩ := h w₁ h₁
    exact ⟨v, z', rows, x1, x2, x3, fun w₂ h₂ => by
      obtain ⟨_, hN⟩ := x4 w₂ h₂
      exact hN⟩
def runN (Nr Nl : Nat → Nat) : Nat → Nat → Nat
  | 0, m => Nl m
  | r + 1, m => Nr (runN Nr Nl r m + 1)
theorem ws_loop {x : Code} (n : Nat) (X : Nat → List α) (I : Nat → Act → World → (Nat → Prop) → Prop) {Nr Nl : Nat → Nat}
    (round : ∀ j a w S, j < n → I j a w S → WS P B0 c T O Pay Nr fn x (X j) S (fun e a' w' S' => e = .normal ∧ I (j + 1) a' w' S') a w)
    (last : ∀ a w S, I n a w S → WS P B0 c T O Pay Nl fn x [] S (fun e a' w' S' => e ≠ .normal ∧ Q e a' w' S') a w)
    (h0 : I 0 a w Sent) : WS P B0 c T O Pay (fun m => runN Nr Nl n m + 1) fn (.loop x) (runX X 0 n) Sent Q a w := g_loop (S := sideP P B0 c T O Pay) sideP_ok n X I round last h0
end
end Go.Proofs.Ytlkhknoaifbajaa

/- THE SENDER's WALK: candidate, walked. -/
namespace Go.Proofs.Ytlkhknoaifbajaa
open Go.Conc Go.RowKit M
set_option linter.unusedVariables false
set_option linter.unusedSimpArgs false
set_option maxRecDepth 100000

section
variable {B0 c : Nat} {T : Cls} {O : Nat → Prop} {Sent : Nat → Prop} {s : ByteArray} {g : Nat}
theorem lkV_one (ls : List DLink) : ∀ v ∈ ls.flatMap lkV, v.oneCell' = true := by
  intro v hv
  rw [List.mem_flatMap] at hv
  obtain ⟨x, _, hx⟩ := hv
  simp [lkV] at hx
  rcases hx with rfl | rfl <;> rfl
theorem infoTLinkP : (Try.prog.info? 65).map (fun i => (i.zero, i.size, i.bytes)) = some (some (.agg #[.int .u8 0, .int .u8 0]), 2, 2) := by kernel_rfl
theorem infoLk2P : (Try.prog.info? 65).map (·.size) = some 2 := by kernel_rfl
theorem infoCd1P : (Try.prog.info? 26).map (·.size) = some 1 := by kernel_rfl
section
variable {P : Program} {o : Oper} {a : Act} {K : Act → World → Prop} {w w' : World} {v' : Value}
theorem uponK_make (l c : Operand) (t : TypeId) (ho : o.op = .makeSlice t l c) (hr : (Instr.makeSlice t (a.eval l) (a.eval c)).run P w = .ok v' w') (h : K (a.put o.dst v') w') : uponK o a K ((execOp a.eval o).run P w) := by
  unfold execOp
  simp only [ho, Sem.run_bind, Sem.run_pure, Result.andThen_ok, hr]
  exact h
theorem events_make_op (l c : Operand) (t : TypeId) (ho : o.op = .makeSlice t l c) (hr : (Instr.makeSlice t (a.eval l) (a.eval c)).run P w = .ok v' w') : (execOp a.eval o).events P w #[] = (Instr.makeSlice t (a.eval l) (a.eval c)).events P w #[] := by
  unfold execOp
  simp only [ho, Sem.events_bind, Sem.events_pure, hr, Result.evThen_ok]
theorem uponK_copy (d s : Operand) (dT sT : TypeId) (ho : o.op = .call { callee := .builtin .copy, args := #[d, s], argTypes := #[dT, sT] })
    (hr : (Builtin.copy_ #[dT, sT] o.type #[a.eval d, a.eval s]).run P w = .ok v' w') (h : K (a.put o.dst v') w') : uponK o a K ((execOp a.eval o).run P w) := by
  unfold execOp
  simp only [ho, resolve, invoke, builtin, Sem.run_bind, Sem.run_pure, Result.andThen_ok, List.map_toArray, List.map_cons, List.map_nil, hr]
  exact h
theorem events_copy_op (d s : Operand) (dT sT : TypeId) (ho : o.op = .call { callee := .builtin .copy, args := #[d, s], argTypes := #[dT, sT] })
    (hr : (Builtin.copy_ #[dT, sT] o.type #[a.eval d, a.eval s]).run P w = .ok v' w') : (execOp a.eval o).events P w #[] = (Builtin.copy_ #[dT, sT] o.type #[a.eval d, a.eval s]).events P w #[] := by
  unfold execOp
  simp only [ho, resolve, invoke, builtin, Sem.events_bind, Sem.run_pure, Sem.events_pure, Result.evThen_ok, List.map_toArray, List.map_cons, List.map_nil, hr]
end
theorem events_sliceAll (a : Addr) (w : World) (es : Array Event) : (Instr.sliceAt 67 (.pointer (some a)) none none none).events Try.prog w es = es := by
  obtain ⟨i0, hi, hz0, hz1, hz2⟩ := info_parts infoTLinkP
  simp [Instr.sliceAt, run_underlying Try.underlying67, Instr.sureAddr, Instr.sliceBounds, sizeOf, typeInfo, hi]
theorem HQ.alloc {w0 w : World} {gs qs : List Value} {q : Nat} (h : HQ B0 c T Sent g w0 gs q qs w) (o : Obj) : HQ B0 c T Sent g w0 gs q qs (w.alloc o) := ⟨h.hb.alloc o, h.on.alloc o, h.new⟩
set_option maxHeartbeats 2000000 in
theorem candidate_c {α : Type} {Pay : α → Value → (Nat → Prop) → World → Prop} (hOk : OkT O T) : ∀ (Sent : Nat → Prop) (ls : List DLink) (pad : List Value) (w0 w : World), B0 ≤ w0.heap.size → (∀ b, Sent b → b < w0.heap.size) → ls.length ≤ 16 → pad.length = 32 - 2 * ls.length → HB B0 c T Sent g w0 (gC s c ls pad) w →
    CallsG Try.prog (sideP Try.prog B0 c T O Pay) 64 #[.pointer (some ⟨g, 1, none⟩)] [] Sent (fun v w' S' => S' = Sent ∧
      ∃ r, v = .agg #[.slice (some ⟨r, 0, none⟩) ls.length ls.length] ∧ w0.heap.size ≤ r ∧ HB B0 c T Sent g w0 (gC s c ls pad) w' ∧ ON B0 c T Sent g r (ls.flatMap lkV) 65 w') w := by
  intro Sent ls pad w0 w hB0 hSt hfit hpl hF
  have Tm := termsP B0 c T Sent
  refine callsG_of_wg Try.func64 (by rfl) rfl ?_
  simp only [Try.ntmps64, List.size_toArray, List.length_cons, List.length_nil, Nat.reduceAdd, Nat.reduceSub, Array.replicate_succ, Array.replicate_zero, List.push_toArray, List.append_toArray, List.nil_append, List.cons_append]
  -- the result's cell
  refine g_seq (S := sideP Try.prog B0 c T O Pay) (xs := []) (xs' := []) sideP_ok ?_
  refine g_region (S := sideP Try.prog B0 c T O Pay) sideP_ok ?_
  simp only [List.size_toArray, List.length_cons, List.length_nil, Nat.reduceAdd, Nat.zero_add, List.range, List.range.loop]
  refine g_make (S := sideP Try.prog B0 c T O Pay) rfl (by rfl) ?_
  intro w1 hR K hK
  replace hF := hF.rely hR
  clear hR
  go_simp
  refine hK _ _ (by simp) fun hO => ⟨?_, ?_⟩
  · rw [listed_nil (by simp [go_sem])]
    exact dp_alloc _ fun cs t fz h => hOk.own _ _ _ hO
  clear hK K
  have hs1 : w0.heap.size ≤ w1.heap.size := hF.kp.1.size
  have hlo := hF.chn
  have hgl := heap_low hF.blk
  have hQ : HQ B0 c T Sent g w0 (gC s c ls pad) w1.heap.size [.slice none 0 0] (w1.alloc (.cells #[.slice none 0 0] 26)) :=
    ⟨hF.alloc _, ON.new (cs := [.slice none 0 0]) (by omega) (by omega) hgl (fun b h => by have := hSt b h; omega) (hOk.own _ _ _ hO), hs1⟩
  clear hF
  have hT1 : ∀ cs, ¬ T cs 26 w1.heap.size := fun cs => hOk.own _ _ _ hO
  clear hO
  generalize w1.heap.size = q at *
  generalize w1.alloc (.cells #[.slice none 0 0] 26) = w2 at *
  refine g_nil (S := sideP Try.prog B0 c T O Pay) sideP_ok ?_
  simp only [ThenS]
  co_applyP g_of_wpC sideP_ok
  -- the row
  co_apply wpC_seq Tm
  co_reg Tm
  co_op HQ.rely hQ (co_quiet Tm)
  co_opw HQ.rely hQ (skip) (co_still Tm)
  co_opw HQ.rely hQ (skip) (co_still Tm)
  co_opw HQ.rely hQ (have hc := hQ.hb.used hpl hfit) (refine ⟨Grow.refl _ _, fun _ _ _ => rfl, ?_⟩; co_evs (exact hQ.hb.ev _ _))
  clear hc
  co_apply opsC_cons_k rfl (by rfl)
  intro w3 hR K hK
  replace hQ := hQ.rely hR
  clear hR
  obtain ⟨i0, hi, hz0, hz1, hz2⟩ := info_parts infoTLinkP
  have hrun := run_make (P := Try.prog) w3 24 65 i0 _ Try.underlying24 hi hz0 .i64 .i64 (ls.length : Int) (ls.length : Int) (by omega) (Int.le_refl _) (by rw [hz2]; omega) (by omega)
  have hevs := events_make (P := Try.prog) w3 24 65 i0 _ Try.underlying24 hi hz0 .i64 .i64 (ls.length : Int) (ls.length : Int) (by omega) (Int.le_refl _) (by rw [hz2]; omega) (by omega) (by rw [hz2, Int.toNat_natCast]; omega) #[]
  simp only [Int.toNat_natCast, hz1] at hrun
  obtain ⟨rs, hrs, hrl⟩ : ∃ rs : List Value, madeCells (Value.agg #[.int .u8 0, .int .u8 0]).cells (ls.length * 2) = rs.toArray ∧ rs.length = ls.length * 2 := ⟨(madeCells (Value.agg #[.int .u8 0, .int .u8 0]).cells (ls.length * 2)).toList, by simp, by rw [Array.length_toList, size_madeCells]⟩
  rw [hrs] at hrun
  refine uponK_make (.tmp 7) (.tmp 7) 24 rfl hrun ?_
  refine hK _ _ ⟨?_, ?_⟩
  · rw [listed_nil ((events_make_op (.tmp 7) (.tmp 7) _ rfl hrun).trans hevs)]
    exact dp_alloc _ fun cs t fz h => by obtain ⟨rfl, rfl, rfl⟩ := Obj.cells.inj h; exact hOk.link _ _
  clear hK K hrun hevs hrs
  try walk_nrm
  have hqw : q < w3.heap.size := heap_low hQ.on.blk
  have hX : HR B0 c T Sent g w0 (gC s c ls pad) q [.slice none 0 0] w3.heap.size rs (w3.alloc (.cells rs.toArray 65)) :=
    ⟨hQ.alloc _, ON.new (by omega) (by omega) (by omega) (fun b h => by have := hSt b h; omega) (hOk.link _ _), hqw⟩
  clear hQ
  have hrr : w0.heap.size ≤ w3.heap.size := by omega
  generalize w3.heap.size = r at *
  generalize w3.alloc (.cells rs.toArray 65) = w4 at *
  co_op HR.rely hX (co_quiet Tm)
  co_apply opsC_nil Tm
  co_then
  -- the copy
  co_apply wpC_seq Tm
  co_reg Tm
  co_op HR.rely hX (co_quiet Tm)
  co_op HR.rely hX (co_quiet Tm)
  co_opw HR.rely hX (skip) (co_still Tm)
  co_opw HR.rely hX (skip) (co_still Tm)
  have hsl := events_sliceAll
  co_opw HR.rely hX (skip) (co_still Tm)
  clear hsl
  co_apply opsC_cons_k rfl (by rfl)
  intro w5 hR K hK
  replace hX := hX.rely hR
  clear hR
  have h1 := lkV_len ls
  have hmin : Nat.min 16 ls.length = ls.length := Nat.min_eq_right hfit
  obtain ⟨hrun, hevs⟩ := run_copy_rowP (P := Try.prog) w5 24 24 3 65 r ls.length ls.length ⟨g, 1, none⟩ 16 16 rs.toArray 65 (ls.flatMap lkV) Try.underlying24 infoLk2P hX.on.blk (by rw [hmin]; omega)
    (fun j v hv => by
      have hp : (⟨g, 1, none⟩ : Addr).add j = ⟨g, 1 + j, none⟩ := by unfold Addr.add; split <;> simp_all
      rw [hp]
      refine hX.hq.hb.cell (1 + j) ?_
      rw [Nat.add_comm]; unfold gC
      rw [List.getElem?_cons_succ, List.getElem?_append_left (List.getElem?_eq_some_iff.1 hv).1]
      exact hv) (by rw [h1, List.size_toArray, hrl]; omega) (lkV_one ls)
  refine uponK_copy (.tmp 9) (.tmp 13) 24 24 rfl hrun ?_
  refine hK _ _ ⟨?_, ?_⟩
  · refine hX.fill_dp hOk.link (ls.flatMap lkV) fun ev hev => ?_
    have := mem_listed hev
    rw [events_copy_op (.tmp 9) (.tmp 13) 24 24 rfl hrun] at this
    exact hevs ev this
  clear hK K hrun hevs
  try walk_nrm
  replace hX := hX.fill hOk.link (ls.flatMap lkV)
  generalize w5.setRow r (ls.flatMap lkV).toArray = w6 at *
  co_apply opsC_nil Tm
  co_then
  -- the answer
  co_apply wpC_seq Tm
  co_reg Tm
  co_op HR.rely hX (co_quiet Tm)
  co_op HR.rely hX (co_quiet Tm)
  have hlt := hX.lt
  co_opw HR.rely hX (have hc := hX.hq.on.cell 0 rfl; have hz := hX.hq.on.free 0) (have hse := fun w' es => events_store (P := Try.prog) (w := w') (es := es) ⟨q, 0, none⟩ (.slice (some ⟨r, 0, none⟩) ls.length ls.length) .plain rfl; have hd := hX.put_dp (.slice (some ⟨r, 0, none⟩) ls.length ls.length) (hT1 _); refine ⟨hd.1, hd.2.1, ?_⟩; co_evs (exact hd.2.2 _ (by simp)))
  clear hc hz
  replace hX := hX.put (.slice (some ⟨r, 0, none⟩) ls.length ls.length) (hT1 _)
  simp only [List.set_cons_zero] at hX
  co_apply opsC_nil Tm
  co_then
  co_apply wpC_ret Tm
  refine ⟨rfl, .agg #[.slice (some ⟨r, 0, none⟩) ls.length ls.length], fun w₁ hw => ?_, rfl, r, rfl, hrr, hX.hq.hb, hX.on⟩
  replace hX := hX.rely hw
  have hc := hX.hq.on.cell 0 rfl
  refine ⟨results_cell_row rfl _ _ q _ _ _ _ rfl hX.hq.on.blk Try.underlying26 rfl infoCd1P, ?_⟩
  refine ⟨Grow.refl _ _, fun _ _ _ => rfl, fun e he => ?_⟩
  have hm := mem_seen he
  simp [go_sem, results, Try.func64, asAddr, hc] at hm
  subst hm
  exact hX.hq.on.ev 0 false
end
end Go.Proofs.Ytlkhknoaifbajaa
