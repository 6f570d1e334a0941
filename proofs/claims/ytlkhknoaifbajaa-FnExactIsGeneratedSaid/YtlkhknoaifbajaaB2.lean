/- Merged: Pr12 Pr13 Pr14 Pr15 Pr16 Pr17 Pr18 Pr19 Pr20 Pr21 Pr22 Pr23 Pc1. -/
import Derived.Test.YtlkhknoaifbajaaB1
import Derived.Test.YtlkhknoaifbajaaA1
import Derived.Great.BuildSlice
/- THE SENDER's WALK: sendWith. -/
namespace Go.Proofs.Ytlkhknoaifbajaa
open Go.Conc Go.RowKit M
set_option linter.unusedVariables false
set_option linter.unusedSimpArgs false
set_option maxRecDepth 100000


/-- What is sent: the row of links lies in a block of its own. -/
def PayL (x : List DLink) (v : Value) (rows : Nat → Prop) (w : World) : Prop := ∃ r, v = .agg #[.slice (some ⟨r, 0, none⟩) x.length x.length] ∧ rows = (· = r) ∧ InC w r (x.flatMap lkV).toArray 65
theorem payL_ok : PayOk PayL := by
  intro x v rows w w₁ h he
  obtain ⟨r, h1, h2, h3⟩ := h
  exact ⟨r, h1, h2, (he r (by rw [h2])).trans h3⟩

section
variable (B0 c : Nat) (T : Cls) (O : Nat → Prop) (s : ByteArray) (g : Nat)
/-- What holds behind a function of the generator: the links made so far are as they were. -/
def PostS (Sent : Nat → Prop) (w0 w : World) (ls : List DLink) (v : Value) (w' : World) (S' : Nat → Prop) : Prop :=
  (∀ b, S' b → b < w'.heap.size ∧ (Sent b ∨ w.heap.size ≤ b)) ∧ w.heap.size ≤ w'.heap.size ∧ ∃ pad', pad'.length = 32 - 2 * ls.length ∧ HB B0 c T S' g w0 (gC s c ls pad') w'
def PreS (Sent : Nat → Prop) (w0 w : World) (ls : List DLink) (pad : List Value) : Prop :=
  B0 ≤ w.heap.size ∧ (∀ b, Sent b → b < w.heap.size) ∧ pad.length = 32 - 2 * ls.length ∧ HB B0 c T Sent g w0 (gC s c ls pad) w
def SFrom (e pos : Nat) (N : Nat → Nat) : Prop := ∀ (Sent : Nat → Prop) (w0 w : World) (ls : List DLink) (pad : List Value), PreS B0 c T s g Sent w0 w ls pad → ls.length + (s.size - pos) + e ≤ 16 →
  CallsS Try.prog B0 c T O PayL N 102 #[.pointer (some ⟨g, 0, none⟩), .int .i64 (pos : Int), .int .i64 (e : Int)] ((genL e (s.data.toList.drop pos)).map (ls ++ ·)) Sent (PostS B0 c T s g Sent w0 w ls) w
end
section
variable {B0 c : Nat} {T : Cls} {O : Nat → Prop} {s : ByteArray} {g : Nat}
theorem ws_seqL {P : Program} {α : Type} {Pay : α → Value → (Nat → Prop) → World → Prop} {fn : FuncId} {xs : List α} {Sent : Nat → Prop} {Q : Exit → Act → World → (Nat → Prop) → Prop} {a : Act} {w : World} {N N' : Nat → Nat} {x y : Code}
    (h : WS P B0 c T O Pay N fn x xs Sent (ThenS ([] : List α) (fun a' w' S' => WS P B0 c T O Pay N' fn y [] S' Q a' w') Q) a w) : WS P B0 c T O Pay (fun m => N (max m (N' m)) + 1) fn (.seq x y) xs Sent Q a w := by
  have := ws_seq (xs' := []) h
  rwa [List.append_nil] at this
theorem os_callSL {P : Program} {α : Type} {Pay : α → Value → (Nat → Prop) → World → Prop} {fn : FuncId} {xs : List α} {Sent : Nat → Prop} {Q : Exit → Act → World → (Nat → Prop) → Prop} {a : Act} {w : World} {N N' : Nat → Nat}
    {ops : Array Oper} {i : Nat} {rest : List Nat} {o : Oper} {f : FuncId} {args : Array Operand} {ats : Array TypeId} {Post : Value → World → (Nat → Prop) → Prop}
    (ho : ops[i]? = some o) (hw : Region.wanted o (yielded ops a.tmps) = true) (hop : o.op = .call { callee := .value (.func f), args, argTypes := ats })
    (hcall : CallsS P B0 c T O Pay N f (args.map a.eval) xs Sent Post w)
    (hnext : ∀ v w' S', Post v w' S' → OS P B0 c T O Pay N' fn ops rest [] S' Q (a.put o.dst v) w') : OS P B0 c T O Pay (fun m => N (N' m + 2) + 1) fn ops (i :: rest) xs Sent Q a w := by
  have := os_callS (xs' := []) ho hw hop hcall hnext
  rwa [List.append_nil] at this
theorem HB.rebase {Sent : Nat → Prop} {w0 w : World} {gs : List Value} (h : HB B0 c T Sent g w0 gs w) : HB B0 c T Sent g w gs w := ⟨h.blk, h.low, h.ne, h.uns, h.cls, h.chn, Kp.refl _ _ _ _ _⟩
theorem HB.base {Sent : Nat → Prop} {w0 w w' : World} {gs : List Value} (h : HB B0 c T Sent g w gs w') (k : Kp B0 c T g w0 w) : HB B0 c T Sent g w0 gs w' := ⟨h.blk, h.low, h.ne, h.uns, h.cls, h.chn, k.trans h.kp⟩
theorem callsC_more {P : Program} {main : Bool} {R : World → World → Prop} {D : World → World → Array Event → Prop} {f : FuncId} {args : Array Value} {n n' : Nat} {w : World} {Post : Value → World → Prop} (h : CallsC P main R D f args n w Post) (hn : n ≤ n') : CallsC P main R D f args n' w Post := by
  obtain ⟨fn, x, h1, h2, h3, h4⟩ := h
  exact ⟨fn, x, h1, h2, h3, wpC_more h4 hn⟩
theorem edit_c : ∃ n, ∀ (Sent : Nat → Prop) (k : UInt8) (b : UInt8) (ls : List DLink) (pad : List Value) (w0 w : World), k = 0 ∨ k = 43 ∨ k = 45 ∨ k = 42 → HB B0 c T Sent g w0 (gC s c (ls ++ [⟨b, b⟩]) pad) w →
    CallsC Try.prog false (RelyP B0 c T) (DP B0 T Sent) 97 #[.pointer (some ⟨g, 1 + ls.length * 2, none⟩), .int .u8 (k.toNat : Int)] n w fun v w' => HB B0 c T Sent g w0 (gC s c (ls ++ [edL b k]) pad) w' := by
  obtain ⟨n0, h0⟩ := edit0_c (B0 := B0) (c := c) (T := T) (s := s) (g := g)
  obtain ⟨n1, h1⟩ := edit43_c (B0 := B0) (c := c) (T := T) (s := s) (g := g)
  obtain ⟨n2, h2⟩ := edit45_c (B0 := B0) (c := c) (T := T) (s := s) (g := g)
  obtain ⟨n3, h3⟩ := edit42_c (B0 := B0) (c := c) (T := T) (s := s) (g := g)
  refine ⟨n0 + n1 + n2 + n3, fun Sent k b ls pad w0 w hk hF => ?_⟩
  rcases hk with rfl | rfl | rfl | rfl
  · exact callsC_more (h0 Sent b ls pad w0 w hF) (by omega)
  · exact callsC_more (h1 Sent b ls pad w0 w hF) (by omega)
  · exact callsC_more (h2 Sent b ls pad w0 w hF) (by omega)
  · exact callsC_more (h3 Sent b ls pad w0 w hF) (by omega)
/-- The link is taken off again. -/
theorem gC_off (ls : List DLink) (x : DLink) (pad : List Value) (hp : pad.length = 32 - 2 * (ls ++ [x]).length) (hf : ls.length < 16) :
    (gC s c (ls ++ [x]) pad).set 33 (.int .i64 (ls.length : Int)) = gC s c ls (lkV x ++ pad) ∧ (lkV x ++ pad).length = 32 - 2 * ls.length := by
  have h1 := lkV_len ls
  rw [List.length_append] at hp
  simp only [List.length_cons, List.length_nil] at hp
  refine ⟨?_, by simp [lkV]; omega⟩
  unfold gC
  rw [List.flatMap_append, List.append_assoc]
  have e2 : [x].flatMap lkV = lkV x := by simp
  rw [e2]
  generalize ls.flatMap lkV = C at *
  have e33 : 33 = (C.length + ((lkV x).length + pad.length)) + 1 := by simp [lkV]; omega
  rw [show (33 : Nat) = (C.length + ((lkV x).length + pad.length)) + 1 from e33, List.set_cons_succ]
  rw [List.set_append_right _ _ (by omega), Nat.add_sub_cancel_left, List.set_append_right _ _ (by omega), Nat.add_sub_cancel_left, List.set_append_right _ _ (by omega), Nat.sub_self]
  simp
set_option maxHeartbeats 4000000 in
theorem sendWith_c (e pos : Nat) {Nf : Nat → Nat} (hf : SFrom B0 c T O s g e pos Nf) : ∃ N, ∀ (Sent : Nat → Prop) (w0 w : World) (ls : List DLink) (pad : List Value) (b k : UInt8), k = 0 ∨ k = 43 ∨ k = 45 ∨ k = 42 → PreS B0 c T s g Sent w0 w ls pad → ls.length + 1 + (s.size - pos) + e ≤ 16 →
    CallsS Try.prog B0 c T O PayL N 111 #[.pointer (some ⟨g, 0, none⟩), .int .u8 (b.toNat : Int), .int .u8 (k.toNat : Int), .int .i64 (pos : Int), .int .i64 (e : Int)]
      ((genL e (s.data.toList.drop pos)).map (ls ++ [edL b k] ++ ·)) Sent (PostS B0 c T s g Sent w0 w ls) w := by
  obtain ⟨nk, hkeep⟩ := keep_c (B0 := B0) (c := c) (T := T) (s := s) (g := g)
  obtain ⟨ne, hedit⟩ := edit_c (B0 := B0) (c := c) (T := T) (s := s) (g := g)
  co_applyP Exists.intro
  intro Sent w0 w ls pad b k hk hpre hfit
  obtain ⟨hB0, hSt, hpl, hF⟩ := hpre
  have Tm := termsP B0 c T Sent
  have hl16 : ls.length ≤ 16 := by omega
  have hkp := hF.kp
  replace hF := hF.rebase
  co_applyP callsS_of_ws (fn := Try.f111) (by rfl) (by rfl) rfl
  co_applyP ws_seq (xs := []) (xs' := (genL e (s.data.toList.drop pos)).map (ls ++ [edL b k] ++ ·))
  co_applyP ws_of_wpC
  co_reg Tm
  co_op HB.rely hF (co_quiet Tm)
  co_opw HB.rely hF (skip) (co_still Tm)
  co_opw HB.rely hF (skip) (co_still Tm)
  co_opw HB.rely hF (skip) (co_still Tm)
  co_opw HB.rely hF (have hc := hF.used hpl hl16) (refine ⟨Grow.refl _ _, fun _ _ _ => rfl, ?_⟩; co_evs (exact hF.ev _ _))
  clear hc
  co_op HB.rely hF (co_quiet Tm)
  co_apply opsC_nil Tm
  simp only [ThenS]
  -- the link is made
  co_applyP ws_seq (xs := []) (xs' := (genL e (s.data.toList.drop pos)).map (ls ++ [edL b k] ++ ·))
  co_applyP ws_of_wpC
  co_reg Tm
  co_op HB.rely hF (co_quiet Tm)
  co_opw HB.rely hF (skip) (co_still Tm)
  co_opw HB.rely hF (skip) (co_still Tm)
  co_op HB.rely hF (co_quiet Tm)
  co_apply opsC_call Tm rfl (by rfl) rfl
  · walk_nrm
    exact hkeep Sent b ls pad w _ (by omega) hpl hF
  rintro v w' ⟨rfl, pad', hpl', hF2⟩
  clear hF
  walk_nrm
  co_op HB.rely hF2 (co_quiet Tm)
  co_apply opsC_call Tm rfl (by rfl) rfl
  · walk_nrm
    exact hedit Sent k b ls pad' w _ hk hF2
  intro v2 w2 hF3
  clear hF2
  walk_nrm
  co_apply opsC_nil Tm
  simp only [ThenS]
  -- what follows
  co_applyP ws_seqL
  co_applyP ws_region
  simp only [List.size_toArray, List.length_cons, List.length_nil, Nat.reduceAdd, Nat.zero_add, List.range, List.range.loop]
  co_applyP os_cons_k rfl (by rfl)
  intro _ hR K hK
  replace hF3 := HB.rely hF3 hR
  clear hR
  go_simp
  try (unfold stored; go_simp)
  refine hK _ _ ⟨?_, ?_⟩
  · (co_quiet Tm)
  clear hK K
  try walk_nrm
  co_applyP os_cons_k rfl (by rfl)
  intro _ hR K hK
  replace hF3 := HB.rely hF3 hR
  clear hR
  go_simp
  try (unfold stored; go_simp)
  refine hK _ _ ⟨?_, ?_⟩
  · (co_quiet Tm)
  clear hK K
  try walk_nrm
  co_applyP os_cons_k rfl (by rfl)
  intro _ hR K hK
  replace hF3 := HB.rely hF3 hR
  clear hR
  go_simp
  try (unfold stored; go_simp)
  refine hK _ _ ⟨?_, ?_⟩
  · (co_quiet Tm)
  clear hK K
  try walk_nrm
  have hle := hF3.kp.1.size
  have hpl'' : pad'.length = 32 - 2 * (ls ++ [edL b k]).length := by rw [hpl']; simp
  co_applyP os_callSL rfl (by rfl) rfl
  · walk_nrm
    exact hf Sent w _ (ls ++ [edL b k]) pad' ⟨by omega, fun b h => by have := hSt b h; omega, hpl'', hF3⟩ (by simp; omega)
  rintro v3 w3 S' ⟨hS', hle', pad3, hpl3, hF4⟩
  walk_nrm
  co_applyP os_nil
  simp only [ThenS]
  -- it is taken off
  have Tm' := termsP B0 c T S'
  have hk4 := hF4.kp
  replace hF4 := hF4.rebase
  have hl3 : (ls ++ [edL b k]).length ≤ 16 := by simp; omega
  co_applyP ws_of_wpC
  co_reg Tm'
  co_op HB.rely hF4 (co_quiet Tm')
  co_op HB.rely hF4 (co_quiet Tm')
  co_opw HB.rely hF4 (skip) (co_still Tm')
  co_opw HB.rely hF4 (skip) (co_still Tm')
  co_opw HB.rely hF4 (skip) (co_still Tm')
  co_opw HB.rely hF4 (have hc := hF4.used hpl3 hl3; have hz := hF4.free 33) (have hd := hF4.store 33 (.int .i64 (ls.length : Int)); refine ⟨hd.1, hd.2.1, ?_⟩; co_evs (exact hd.2.2 _ (by simp)))
  clear hc hz
  have hle4 := hF4.kp.1.size
  obtain ⟨hoff, hlen⟩ := gC_off (s := s) (c := c) ls (edL b k) pad3 hpl3 (by omega)
  replace hF4 := hF4.put 33 (.int .i64 (ls.length : Int))
  rw [hoff] at hF4
  co_apply opsC_nil Tm'
  refine ⟨rfl, _, resultsC_none (by rfl) _, fun b h => ?_, ?_, _, hlen, hF4.base (hkp.trans hk4)⟩
  · have h1 := hS' b h
    refine ⟨by simp [World.setCell]; omega, h1.2.imp id fun h2 => by omega⟩
  · simp [World.setCell]; omega
end
end Go.Proofs.Ytlkhknoaifbajaa

/- THE SENDER's WALK: sendAt. -/
namespace Go.Proofs.Ytlkhknoaifbajaa
open Go.Conc Go.RowKit M
set_option linter.unusedVariables false
set_option linter.unusedSimpArgs false
set_option maxRecDepth 100000

theorem string_at {s : ByteArray} {pos : Nat} {b : UInt8} {t : List UInt8} (h : s.data.toList.drop pos = b :: t) : ∃ hlt : pos < s.size, s[pos] = b ∧ s.data.toList.drop (pos + 1) = t := by
  have h1 : s.data.toList[pos]? = some b := by rw [← List.head?_drop, h]; rfl
  have hlt : pos < s.data.toList.length := (List.getElem?_eq_some_iff.1 h1).1
  have hsz : s.size = s.data.size := rfl
  refine ⟨by rw [hsz]; simpa using hlt, ?_, ?_⟩
  · have h2 := (List.getElem?_eq_some_iff.1 h1).2
    rw [Array.getElem_toList] at h2
    exact h2
  · rw [← List.drop_drop, h]; rfl
theorem events_index_str (t : TypeId) (s : ByteArray) (k : IntKind) (i : Int) (w : World) (es : Array Event) (h : Try.prog.underlying t = some .string) (hi : 0 ≤ i ∧ i < s.size) :
    (Instr.index t (.string s) (.int k i)).events Try.prog w es = es := by
  have h2 : i.toNat < s.size := by omega
  have h3 : (if 0 ≤ i then s[i.toNat]? else none) = some s[i.toNat] := by rw [if_pos hi.1, ByteArray.getElem?_lt' s _ h2]
  simp [Instr.index, run_underlying h, asIntOf, h3]
section
variable (B0 c : Nat) (T : Cls) (O : Nat → Prop) (s : ByteArray) (g : Nat)
def SWith (e pos : Nat) (N : Nat → Nat) : Prop := ∀ (Sent : Nat → Prop) (w0 w : World) (ls : List DLink) (pad : List Value) (b k : UInt8), k = 0 ∨ k = 43 ∨ k = 45 ∨ k = 42 → PreS B0 c T s g Sent w0 w ls pad → ls.length + 1 + (s.size - pos) + e ≤ 16 →
    CallsS Try.prog B0 c T O PayL N 111 #[.pointer (some ⟨g, 0, none⟩), .int .u8 (b.toNat : Int), .int .u8 (k.toNat : Int), .int .i64 (pos : Int), .int .i64 (e : Int)]
      ((genL e (s.data.toList.drop pos)).map (ls ++ [edL b k] ++ ·)) Sent (PostS B0 c T s g Sent w0 w ls) w
def atL (e : Nat) (b : UInt8) (t : List UInt8) : List (List DLink) :=
  (genL e t).map (⟨b, b⟩ :: ·) ++ (match e with | 0 => [] | n + 1 => (genL n t).map (⟨b, 0⟩ :: ·) ++ voiceL b (genL n t))
def SAt (e pos : Nat) (b : UInt8) (t : List UInt8) (N : Nat → Nat) : Prop := ∀ (Sent : Nat → Prop) (w0 w : World) (ls : List DLink) (pad : List Value), PreS B0 c T s g Sent w0 w ls pad → ls.length + (s.size - pos) + e ≤ 16 →
  CallsS Try.prog B0 c T O PayL N 110 #[.pointer (some ⟨g, 0, none⟩), .int .i64 (pos : Int), .int .i64 (e : Int)] ((atL e b t).map (ls ++ ·)) Sent (PostS B0 c T s g Sent w0 w ls) w
end
section
variable {B0 c : Nat} {T : Cls} {O : Nat → Prop} {s : ByteArray} {g : Nat}
set_option maxHeartbeats 4000000 in
theorem sendAt0_c (pos : Nat) (b : UInt8) (t : List UInt8) (ht : s.data.toList.drop pos = b :: t) (hsz : s.size ≤ 16) {Nw : Nat → Nat} (hw : SWith B0 c T O s g 0 (pos + 1) Nw) : ∃ N, SAt B0 c T O s g 0 pos b t N := by
  obtain ⟨hlt, hb, ht2⟩ := string_at ht
  have hli : (pos : Int) < (s.size : Int) := by omega
  have hp0 : (0 : Int) ≤ (pos : Int) := by omega
  have hw1 : IntKind.i64.wrap ((pos : Int) + 1) = ((pos + 1 : Nat) : Int) := by rw [IntKind.wrap_i64]; omega
  co_applyP Exists.intro
  intro Sent w0 w ls pad hpre hfit
  have hlist : (atL 0 b t).map (ls ++ ·) = (genL 0 (s.data.toList.drop (pos + 1))).map (ls ++ [edL b 0] ++ ·) := by
    rw [ht2]; unfold atL; simp [edL]
  rw [hlist]
  obtain ⟨hB0, hSt, hpl, hF⟩ := hpre
  have Tm := termsP B0 c T Sent
  have hkp := hF.kp
  replace hF := hF.rebase
  co_applyP callsS_of_ws (fn := Try.f110) (by rfl) (by rfl) rfl
  co_applyP ws_seq (xs := []) (xs' := (genL 0 (s.data.toList.drop (pos + 1))).map (ls ++ [edL b 0] ++ ·))
  co_applyP ws_of_wpC
  co_reg Tm
  co_op HB.rely hF (co_quiet Tm)
  co_opw HB.rely hF (skip) (co_still Tm)
  co_opw HB.rely hF (skip) (co_still Tm)
  co_opw HB.rely hF (have hc := hF.text) (refine ⟨Grow.refl _ _, fun _ _ _ => rfl, ?_⟩; co_evs (exact hF.ev _ _))
  clear hc
  co_op HB.rely hF (co_quiet Tm)
  have hix := fun w es => events_index_str 9 s .i64 (pos : Int) w es (by rfl) ⟨hp0, hli⟩
  co_opw HB.rely hF (skip) (co_still Tm)
  clear hix
  co_op HB.rely hF (co_quiet Tm)
  co_apply opsC_nil Tm
  simp only [ThenS]
  -- as it is
  co_applyP ws_seqL
  co_applyP ws_region
  simp only [List.size_toArray, List.length_cons, List.length_nil, Nat.reduceAdd, Nat.zero_add, List.range, List.range.loop]
  co_applyP os_cons_k rfl (by rfl)
  intro _ hR K hK
  replace hF := HB.rely hF hR
  clear hR
  go_simp
  try (unfold stored; go_simp)
  refine hK _ _ ⟨?_, ?_⟩
  · (co_quiet Tm)
  clear hK K
  try walk_nrm
  co_applyP os_cons_k rfl (by rfl)
  intro _ hR K hK
  replace hF := HB.rely hF hR
  clear hR
  go_simp
  try (unfold stored; go_simp)
  refine hK _ _ ⟨?_, ?_⟩
  · (co_quiet Tm)
  clear hK K
  try walk_nrm
  co_applyP os_cons_k rfl (by rfl)
  intro _ hR K hK
  replace hF := HB.rely hF hR
  clear hR
  go_simp
  try (unfold stored; go_simp)
  refine hK _ _ ⟨?_, ?_⟩
  · (co_quiet Tm)
  clear hK K
  try walk_nrm
  co_applyP os_cons_k rfl (by rfl)
  intro _ hR K hK
  replace hF := HB.rely hF hR
  clear hR
  go_simp
  try (unfold stored; go_simp)
  refine hK _ _ ⟨?_, ?_⟩
  · (co_quiet Tm)
  clear hK K
  try walk_nrm
  co_applyP os_cons_k rfl (by rfl)
  intro _ hR K hK
  replace hF := HB.rely hF hR
  clear hR
  go_simp
  try (unfold stored; go_simp)
  refine hK _ _ ⟨?_, ?_⟩
  · (co_quiet Tm)
  clear hK K
  try walk_nrm
  have hle := hF.kp.1.size
  co_applyP os_callSL rfl (by rfl) rfl
  · walk_nrm
    exact hw Sent w _ ls pad b 0 (.inl rfl) ⟨by omega, fun b h => by have := hSt b h; omega, hpl, hF⟩ (by omega)
  rintro v3 w3 S' ⟨hS', hle', pad3, hpl3, hF4⟩
  walk_nrm
  co_applyP os_nil
  simp only [ThenS]
  have Tm' := termsP B0 c T S'
  have hk4 := hF4.kp
  replace hF4 := hF4.rebase
  clear hF
  co_applyP ws_of_wpC
  co_apply wpC_seq Tm' (n₂ := 0)
  co_apply wpC_seq Tm'
  co_reg Tm'
  co_op HB.rely hF4 (co_quiet Tm')
  co_op HB.rely hF4 (co_quiet Tm')
  co_apply opsC_nil Tm'
  co_then
  co_apply wpC_cond Tm' (t := true) (by rfl)
  simp only [if_true]
  co_go Tm' HB.rely hF4 (co_quiet Tm')
  have hle4 := hF4.kp.1.size
  refine ⟨rfl, _, resultsC_none (by rfl) _, fun b h => ?_, ?_, _, hpl3, hF4.base (hkp.trans hk4)⟩
  · have h1 := hS' b h
    exact ⟨by omega, h1.2.imp id fun h2 => by omega⟩
  · omega
theorem ws_cond_split {P : Program} {α : Type} {Pay : α → Value → (Nat → Prop) → World → Prop} {fn : FuncId} {xs : List α} {Sent : Nat → Prop} {Q : Exit → Act → World → (Nat → Prop) → Prop} {a : Act} {w : World} {N₁ N₂ : Nat → Nat} {o : Operand} {x y : Code} {t : Bool}
    (hc : a.eval o = .bool t) (ht : t = true → WS P B0 c T O Pay N₁ fn x xs Sent Q a w) (hf : t = false → WS P B0 c T O Pay N₂ fn y xs Sent Q a w) : WS P B0 c T O Pay (fun m => max (N₁ m) (N₂ m) + 1) fn (.cond o x y) xs Sent Q a w := by
  refine (ws_cond (N := fun m => max (N₁ m) (N₂ m)) hc ?_)
  cases t with
  | true => exact ItS.more (ht rfl) fun m => Nat.le_max_left _ _
  | false => exact ItS.more (hf rfl) fun m => Nat.le_max_right _ _
end
end Go.Proofs.Ytlkhknoaifbajaa

/- THE SENDER's WALK: sendAt with edits left. -/
namespace Go.Proofs.Ytlkhknoaifbajaa
open Go.Conc Go.RowKit M
set_option linter.unusedVariables false
set_option linter.unusedSimpArgs false
set_option maxRecDepth 100000

section
variable {B0 c : Nat} {T : Cls} {O : Nat → Prop} {s : ByteArray} {g : Nat}
set_option maxHeartbeats 4000000 in
theorem sendAtS_c (e pos : Nat) (he : e ≤ 100) (b : UInt8) (t : List UInt8) (ht : s.data.toList.drop pos = b :: t) (hsz : s.size ≤ 16) {Nw Nv : Nat → Nat} (hw : SWith B0 c T O s g (e + 1) (pos + 1) Nw) (hv : SWith B0 c T O s g e (pos + 1) Nv) : ∃ N, SAt B0 c T O s g (e + 1) pos b t N := by
  obtain ⟨hlt, hb, ht2⟩ := string_at ht
  obtain ⟨nsw, hsw⟩ := swap_c
  have hli : (pos : Int) < (s.size : Int) := by omega
  have hp0 : (0 : Int) ≤ (pos : Int) := by omega
  have hw1 : IntKind.i64.wrap ((pos : Int) + 1) = ((pos + 1 : Nat) : Int) := by rw [IntKind.wrap_i64]; omega
  obtain ⟨E, hE⟩ : ∃ E : Int, E = ((e + 1 : Nat) : Int) := ⟨_, rfl⟩
  have hne : (E == 0) = false := by rw [hE]; simp; omega
  have hw2 : IntKind.i64.wrap (E - 1) = (e : Int) := by rw [hE, IntKind.wrap_i64]; omega
  have HE := Lib.hid hE
  clear hE
  co_applyP Exists.intro
  intro Sent w0 w ls pad hpre hfit
  have hlist : (atL (e + 1) b t).map (ls ++ ·) = (genL (e + 1) (s.data.toList.drop (pos + 1))).map (ls ++ [edL b 0] ++ ·) ++ ((genL e (s.data.toList.drop (pos + 1))).map (ls ++ [edL b 45] ++ ·) ++ (if isObs (b.toNat : Int) = true then (genL e (s.data.toList.drop (pos + 1))).map (ls ++ [edL b 42] ++ ·) else [])) := by
    rw [ht2]; unfold atL voiceL
    by_cases ho : isObs (b.toNat : Int) = true <;> simp [edL, voL, ho, Function.comp_def]
  rw [hlist]
  rw [← HE.out]
  generalize hL1 : (genL (e + 1) (s.data.toList.drop (pos + 1))).map (ls ++ [edL b 0] ++ ·) = L1
  generalize hL2 : (genL e (s.data.toList.drop (pos + 1))).map (ls ++ [edL b 45] ++ ·) = L2
  generalize hL3 : (genL e (s.data.toList.drop (pos + 1))).map (ls ++ [edL b 42] ++ ·) = L3
  obtain ⟨hB0, hSt, hpl, hF⟩ := hpre
  have Tm := termsP B0 c T Sent
  have hkp := hF.kp
  replace hF := hF.rebase
  co_applyP callsS_of_ws (fn := Try.f110) (by rfl) (by rfl) rfl
  co_applyP ws_seq (xs := []) (xs' := L1 ++ (L2 ++ (if isObs (b.toNat : Int) = true then L3 else [])))
  co_applyP ws_of_wpC
  co_reg Tm
  co_op HB.rely hF (co_quiet Tm)
  co_opw HB.rely hF (skip) (co_still Tm)
  co_opw HB.rely hF (skip) (co_still Tm)
  co_opw HB.rely hF (have hc := hF.text) (refine ⟨Grow.refl _ _, fun _ _ _ => rfl, ?_⟩; co_evs (exact hF.ev _ _))
  clear hc
  co_op HB.rely hF (co_quiet Tm)
  have hix := fun w es => events_index_str 9 s .i64 (pos : Int) w es (by rfl) ⟨hp0, hli⟩
  co_opw HB.rely hF (skip) (co_still Tm)
  clear hix
  co_op HB.rely hF (co_quiet Tm)
  co_apply opsC_nil Tm
  simp only [ThenS]
  -- as it is
  co_applyP ws_seq (xs := L1) (xs' := L2 ++ (if isObs (b.toNat : Int) = true then L3 else []))
  co_applyP ws_region
  simp only [List.size_toArray, List.length_cons, List.length_nil, Nat.reduceAdd, Nat.zero_add, List.range, List.range.loop]
  co_applyP os_cons_k rfl (by rfl)
  intro _ hR K hK
  replace hF := HB.rely hF hR
  clear hR
  go_simp
  try (unfold stored; go_simp)
  refine hK _ _ ⟨?_, ?_⟩
  · (co_quiet Tm)
  clear hK K
  try walk_nrm
  co_applyP os_cons_k rfl (by rfl)
  intro _ hR K hK
  replace hF := HB.rely hF hR
  clear hR
  go_simp
  try (unfold stored; go_simp)
  refine hK _ _ ⟨?_, ?_⟩
  · (co_quiet Tm)
  clear hK K
  try walk_nrm
  co_applyP os_cons_k rfl (by rfl)
  intro _ hR K hK
  replace hF := HB.rely hF hR
  clear hR
  go_simp
  try (unfold stored; go_simp)
  refine hK _ _ ⟨?_, ?_⟩
  · (co_quiet Tm)
  clear hK K
  try walk_nrm
  co_applyP os_cons_k rfl (by rfl)
  intro _ hR K hK
  replace hF := HB.rely hF hR
  clear hR
  go_simp
  try (unfold stored; go_simp)
  refine hK _ _ ⟨?_, ?_⟩
  · (co_quiet Tm)
  clear hK K
  try walk_nrm
  co_applyP os_cons_k rfl (by rfl)
  intro _ hR K hK
  replace hF := HB.rely hF hR
  clear hR
  go_simp
  try (unfold stored; go_simp)
  refine hK _ _ ⟨?_, ?_⟩
  · (co_quiet Tm)
  clear hK K
  try walk_nrm
  have hle := hF.kp.1.size
  co_applyP os_callSL rfl (by rfl) rfl
  · walk_nrm
    rw [HE.out, ← hL1]
    exact hw Sent w _ ls pad b 0 (.inl rfl) ⟨by omega, fun b h => by have := hSt b h; omega, hpl, hF⟩ (by omega)
  rintro v3 w3 S' ⟨hS', hle', pad3, hpl3, hF4⟩
  walk_nrm
  co_applyP os_nil
  simp only [ThenS]
  have Tm' := termsP B0 c T S'
  have hk4 := hF4.kp
  replace hF4 := hF4.rebase
  clear hF
  co_applyP ws_seq (xs := []) (xs' := L2 ++ (if isObs (b.toNat : Int) = true then L3 else []))
  co_applyP ws_of_wpC
  co_apply wpC_seq Tm'
  co_reg Tm'
  co_op HB.rely hF4 (co_quiet Tm')
  co_op HB.rely hF4 (co_quiet Tm')
  co_apply opsC_nil Tm'
  co_then
  co_apply wpC_cond Tm' (t := false) (by rfl)
  simp only [Bool.false_eq_true, if_false]
  co_apply wpC_skip Tm'
  simp only [ThenS]
  -- taken away
  co_applyP ws_seq (xs := L2) (xs' := (if isObs (b.toNat : Int) = true then L3 else []))
  co_applyP ws_region
  simp only [List.size_toArray, List.length_cons, List.length_nil, Nat.reduceAdd, Nat.zero_add, List.range, List.range.loop]
  co_applyP os_cons_k rfl (by rfl)
  intro _ hR K hK
  replace hF4 := HB.rely hF4 hR
  clear hR
  go_simp
  try (unfold stored; go_simp)
  refine hK _ _ ⟨?_, ?_⟩
  · (co_quiet Tm')
  clear hK K
  try walk_nrm
  co_applyP os_cons_k rfl (by rfl)
  intro _ hR K hK
  replace hF4 := HB.rely hF4 hR
  clear hR
  go_simp
  try (unfold stored; go_simp)
  refine hK _ _ ⟨?_, ?_⟩
  · (co_quiet Tm')
  clear hK K
  try walk_nrm
  co_applyP os_cons_k rfl (by rfl)
  intro _ hR K hK
  replace hF4 := HB.rely hF4 hR
  clear hR
  go_simp
  try (unfold stored; go_simp)
  refine hK _ _ ⟨?_, ?_⟩
  · (co_quiet Tm')
  clear hK K
  try walk_nrm
  co_applyP os_cons_k rfl (by rfl)
  intro _ hR K hK
  replace hF4 := HB.rely hF4 hR
  clear hR
  go_simp
  try (unfold stored; go_simp)
  refine hK _ _ ⟨?_, ?_⟩
  · (co_quiet Tm')
  clear hK K
  try walk_nrm
  co_applyP os_cons_k rfl (by rfl)
  intro _ hR K hK
  replace hF4 := HB.rely hF4 hR
  clear hR
  go_simp
  try (unfold stored; go_simp)
  refine hK _ _ ⟨?_, ?_⟩
  · (co_quiet Tm')
  clear hK K
  try walk_nrm
  co_applyP os_cons_k rfl (by rfl)
  intro _ hR K hK
  replace hF4 := HB.rely hF4 hR
  clear hR
  go_simp
  try (unfold stored; go_simp)
  refine hK _ _ ⟨?_, ?_⟩
  · (co_quiet Tm')
  clear hK K
  try walk_nrm
  have hle4 := hF4.kp.1.size
  co_applyP os_callSL rfl (by rfl) rfl
  · walk_nrm
    rw [← hL2]
    exact hv S' w3 _ ls pad3 b 45 (.inr (.inr (.inl rfl))) ⟨by omega, fun b h => by have := (hS' b h).1; omega, hpl3, hF4⟩ (by omega)
  rintro v5 w5 S2 ⟨hS2, hle5, pad5, hpl5, hF5⟩
  walk_nrm
  co_applyP os_nil
  simp only [ThenS]
  have Tm2 := termsP B0 c T S2
  have hk5 := hF5.kp
  replace hF5 := hF5.rebase
  clear hF4
  -- the voice
  co_applyP ws_seq (xs := []) (xs' := (if isObs (b.toNat : Int) = true then L3 else []))
  co_applyP ws_of_wpC
  co_reg Tm2
  co_op HB.rely hF5 (co_quiet Tm2)
  co_apply opsC_call Tm2 rfl (by rfl) rfl
  · walk_nrm
    exact hsw _ _ _ Tm2 _ _
  rintro v6 w6 ⟨rfl, hsi⟩
  have hF6 : HB B0 c T S2 g w5 (gC s c ls pad5) w6 := by
    rcases hsi with rfl | hr
    · exact hF5
    · exact hF5.rely hr
  clear hF5 hsi
  walk_nrm
  co_op HB.rely hF6 (co_quiet Tm2)
  co_op HB.rely hF6 (co_quiet Tm2)
  co_op HB.rely hF6 (co_quiet Tm2)
  co_op HB.rely hF6 (co_quiet Tm2)
  co_op HB.rely hF6 (co_quiet Tm2)
  co_apply opsC_nil Tm2
  simp only [ThenS]
  co_applyP ws_seq (xs := []) (xs' := (if isObs (b.toNat : Int) = true then L3 else []))
  co_applyP ws_of_wpC
  co_reg Tm2
  co_op HB.rely hF6 (co_quiet Tm2)
  co_apply opsC_nil Tm2
  simp only [ThenS]
  have hle6 := hF6.kp.1.size
  have hall : ∀ b, S2 b → b < w5.heap.size ∧ (Sent b ∨ w.heap.size ≤ b) := fun b h => by
    have h1 := hS2 b h
    refine ⟨h1.1, ?_⟩
    rcases h1.2 with h2 | h2
    · exact (hS' b h2).2.imp id fun h3 => by omega
    · right; omega
  co_applyP ws_cond_split (t := isObs (b.toNat : Int)) rfl
  · intro ho
    rw [if_pos ho]
    co_applyP ws_region
    simp only [List.size_toArray, List.length_cons, List.length_nil, Nat.reduceAdd, Nat.zero_add, List.range, List.range.loop]
    co_applyP os_cons_k rfl (by rfl)
    intro _ hR K hK
    replace hF6 := HB.rely hF6 hR
    clear hR
    go_simp
    try (unfold stored; go_simp)
    refine hK _ _ ⟨?_, ?_⟩
    · (co_quiet Tm2)
    clear hK K
    try walk_nrm
    co_applyP os_cons_k rfl (by rfl)
    intro _ hR K hK
    replace hF6 := HB.rely hF6 hR
    clear hR
    go_simp
    try (unfold stored; go_simp)
    refine hK _ _ ⟨?_, ?_⟩
    · (co_quiet Tm2)
    clear hK K
    try walk_nrm
    co_applyP os_cons_k rfl (by rfl)
    intro _ hR K hK
    replace hF6 := HB.rely hF6 hR
    clear hR
    go_simp
    try (unfold stored; go_simp)
    refine hK _ _ ⟨?_, ?_⟩
    · (co_quiet Tm2)
    clear hK K
    try walk_nrm
    co_applyP os_cons_k rfl (by rfl)
    intro _ hR K hK
    replace hF6 := HB.rely hF6 hR
    clear hR
    go_simp
    try (unfold stored; go_simp)
    refine hK _ _ ⟨?_, ?_⟩
    · (co_quiet Tm2)
    clear hK K
    try walk_nrm
    co_applyP os_cons_k rfl (by rfl)
    intro _ hR K hK
    replace hF6 := HB.rely hF6 hR
    clear hR
    go_simp
    try (unfold stored; go_simp)
    refine hK _ _ ⟨?_, ?_⟩
    · (co_quiet Tm2)
    clear hK K
    try walk_nrm
    co_applyP os_cons_k rfl (by rfl)
    intro _ hR K hK
    replace hF6 := HB.rely hF6 hR
    clear hR
    go_simp
    try (unfold stored; go_simp)
    refine hK _ _ ⟨?_, ?_⟩
    · (co_quiet Tm2)
    clear hK K
    try walk_nrm
    have hle7 := hF6.kp.1.size
    co_applyP os_callSL rfl (by rfl) rfl
    · walk_nrm
      rw [← hL3]
      exact hv S2 w5 _ ls pad5 b 42 (.inr (.inr (.inr rfl))) ⟨by omega, fun b h => by have := (hall b h).1; omega, hpl5, hF6⟩ (by omega)
    rintro v7 w7 S3 ⟨hS3, hle8, pad7, hpl7, hF7⟩
    walk_nrm
    co_applyP os_nil
    refine ⟨rfl, _, resultsC_none (by rfl) _, fun b h => ?_, by omega, _, hpl7, hF7.base ((hkp.trans hk4).trans hk5)⟩
    have h1 := hS3 b h
    refine ⟨h1.1, ?_⟩
    rcases h1.2 with h2 | h2
    · exact (hall b h2).2
    · right; omega
  · intro ho
    rw [if_neg (by rw [ho]; simp)]
    co_applyP ws_skip
    refine ⟨rfl, _, resultsC_none (by rfl) _, fun b h => ?_, by omega, _, hpl5, hF6.base ((hkp.trans hk4).trans hk5)⟩
    have h1 := hall b h
    exact ⟨by omega, h1.2⟩
end
end Go.Proofs.Ytlkhknoaifbajaa

/- THE SENDER's WALK: a region that draws its order and ends by a send. -/
namespace Go.Proofs.Ytlkhknoaifbajaa
open Go.Conc Go.RowKit M
set_option linter.unusedVariables false
set_option linter.unusedSimpArgs false
set_option maxRecDepth 100000

section
variable {P : Program} {B0 c : Nat} {T : Cls} {O : Nat → Prop} {α : Type} {Pay : α → Value → (Nat → Prop) → World → Prop} {fn : FuncId} {xs : List α} {Sent : Nat → Prop} {Q : Exit → Act → World → (Nat → Prop) → Prop} {a : Act} {w : World} {N : Nat → Nat} {ops : Array Oper}
theorem ws_region_draw {id : Nat} (h : ∀ w₁, RelyP B0 c T w w₁ → ∀ t, OS P B0 c T O Pay N fn ops (Region.schedule (P.follows .mixedOrders) ops t) xs Sent Q a { w₁ with drawn := w₁.drawn + 1 }) : WS P B0 c T O Pay (fun m => N m + 1) fn (.region id ops true) xs Sent Q a w := by
  intro b k cs ys hb hk hc
  exact GoI.stepG rfl fun w₁ h₁ => by simp only [List.cons_append, List.nil_append]; rw [stepG_region_draw]; exact ⟨ldP _, h w₁ h₁ _ b k cs ys hb hk hc⟩
/-- Every order: F: what holds when so many operations are left besides the last. -/
theorem os_orders {md : Region.Mode} (F : Nat → Array Bool → Act → World → Prop) (N : Nat → Nat → Nat) (il : Nat)
    (hlast : ∀ bits a w, F 0 bits a w → Region.ready md ops bits = [il] ∧ OS P B0 c T O Pay (N 0) fn ops [il] xs Sent Q a w)
    (hstep : ∀ n bits a w, F (n + 1) bits a w → Region.ready md ops bits ≠ [] ∧ ∀ i ∈ Region.ready md ops bits, ∀ rest, (∀ a' w', F n (bits.setIfInBounds i true) a' w' → OS P B0 c T O Pay (N n) fn ops rest xs Sent Q a' w') → OS P B0 c T O Pay (N (n + 1)) fn ops (i :: rest) xs Sent Q a w) :
    ∀ (n t : Nat) (bits : Array Bool) (a : Act) (w : World), F n bits a w → OS P B0 c T O Pay (N n) fn ops (Region.linearise.go md ops (n + 1) t bits []) xs Sent Q a w := by
  intro n
  induction n with
  | zero =>
    intro t bits a w h
    obtain ⟨h1, h2⟩ := hlast bits a w h
    simp only [Region.linearise.go]
    change OS P B0 c T O Pay (N 0) fn ops (match (Region.ready md ops bits)[t % (Region.ready md ops bits).length]? with
      | some i => [i].reverse
      | none => [].reverse) xs Sent Q a w
    rw [h1]
    simpa [Nat.mod_one] using h2
  | succ n ih =>
    intro t bits a w h
    obtain ⟨h1, h2⟩ := hstep n bits a w h
    rw [Region.linearise.go]
    change OS P B0 c T O Pay (N (n + 1)) fn ops (match (Region.ready md ops bits)[t % (Region.ready md ops bits).length]? with
      | some i => Region.linearise.go md ops (n + 1) (t / (Region.ready md ops bits).length) (bits.setIfInBounds i true) [i]
      | none => [].reverse) xs Sent Q a w
    cases hi : (Region.ready md ops bits)[t % (Region.ready md ops bits).length]? with
    | none =>
      exfalso
      have hpos : 0 < (Region.ready md ops bits).length := List.length_pos_iff.2 h1
      have hlt := Nat.mod_lt t hpos
      simp at hi
      omega
    | some i =>
      simp only []
      rw [linearise_go_acc, List.reverse_singleton, List.singleton_append]
      exact h2 i (List.mem_of_getElem? hi) _ fun a' w' h' => ih _ _ a' w' h'
end
end Go.Proofs.Ytlkhknoaifbajaa

/- THE SENDER's WALK: found <- candidate(). -/
namespace Go.Proofs.Ytlkhknoaifbajaa
open Go.Conc Go.RowKit M
set_option linter.unusedVariables false
set_option linter.unusedSimpArgs false
set_option maxRecDepth 100000

noncomputable def sfOps : Array Oper := match Try.f102.body with
  | some (.seq (.seq _ (.cond _ (.region _ ops _) _)) _) => ops
  | _ => #[]
def bitsL (i j : Nat) : Array Bool := #[decide (0 < i), decide (1 < i), decide (2 < i), decide (3 < i), decide (0 < j), decide (1 < j), decide (2 < j), decide (3 < j), false]
theorem ready_sf (md : Region.Mode) : ∀ i j : Fin 5, Region.ready md sfOps (bitsL i j) = (if i.val < 4 then [i.val] else []) ++ ((if j.val < 4 then [4 + j.val] else []) ++ (if i.val = 4 ∧ j.val = 4 then [8] else [])) := by
  cases md <;> decide +kernel
theorem bits_a (i j : Nat) (h : i < 4) : (bitsL i j).setIfInBounds i true = bitsL (i + 1) j := by
  match i, h with
  | 0, _ => simp [bitsL]
  | 1, _ => simp [bitsL]
  | 2, _ => simp [bitsL]
  | 3, _ => simp [bitsL]
theorem bits_b (i j : Nat) (h : j < 4) : (bitsL i j).setIfInBounds (4 + j) true = bitsL i (j + 1) := by
  match j, h with
  | 0, _ => simp [bitsL]
  | 1, _ => simp [bitsL]
  | 2, _ => simp [bitsL]
  | 3, _ => simp [bitsL]
def wh (b : Prop) [Decidable b] (v : Value) : Value := if b then v else undef
/-- The temporaries when i of the one chain and j of the other are done. -/
def tmR (s : ByteArray) (g c : Nat) (e : Int) (i j : Nat) (cv : Value) : Array Value :=
  #[.pointer (some ⟨g, 0, none⟩), .int .i64 (s.size : Int), .int .i64 e, undef, undef, undef, undef, undef, .int .i64 (s.size : Int), .pointer (some ⟨g, 0, none⟩), .pointer (some ⟨g, 0, none⟩), .pointer (some ⟨g, 0, none⟩), .string s, .int .i64 (s.size : Int), .bool true,
    wh (0 < i) (.pointer (some ⟨g, 0, none⟩)), wh (1 < i) (.pointer (some ⟨g, 0, none⟩)), wh (2 < i) (.pointer (some ⟨g, 34, none⟩)), wh (3 < i) (.chan (some c)),
    wh (0 < j) (.pointer (some ⟨g, 0, none⟩)), wh (1 < j) (.pointer (some ⟨g, 0, none⟩)), wh (2 < j) (.pointer (some ⟨g, 1, none⟩)), wh (3 < j) cv,
    undef, undef, undef, undef, undef, undef, undef, undef, undef, undef, undef, undef, undef, undef, undef, undef, undef, undef, undef, undef]
section
variable (B0 c : Nat) (T : Cls) (O : Nat → Prop) (Sent : Nat → Prop) (g : Nat) (w0 : World) (gs : List Value) (ls : List DLink)
structure HD (j : Nat) (cv : Value) (w : World) : Prop where
  hb : HB B0 c T Sent g w0 gs w
  cnd : j = 4 → ∃ r, cv = .agg #[.slice (some ⟨r, 0, none⟩) ls.length ls.length] ∧ w0.heap.size ≤ r ∧ ON B0 c T Sent g r (ls.flatMap lkV) 65 w
end
section
variable {B0 c : Nat} {T : Cls} {O : Nat → Prop} {Sent : Nat → Prop} {g : Nat} {w0 w w₁ : World} {gs : List Value} {ls : List DLink} {j : Nat} {cv : Value} {s : ByteArray}
theorem HD.rely (h : HD B0 c T Sent g w0 gs ls j cv w) (x : RelyP B0 c T w w₁) : HD B0 c T Sent g w0 gs ls j cv w₁ :=
  ⟨h.hb.rely x, fun hj => by obtain ⟨r, h1, h2, h3⟩ := h.cnd hj; exact ⟨r, h1, h2, h3.rely x⟩⟩
def FR (B0 c : Nat) (T : Cls) (Sent : Nat → Prop) (s : ByteArray) (g : Nat) (w0 : World) (gs : List Value) (ls : List DLink) (e : Int) (n : Nat) (bits : Array Bool) (a : Act) (w : World) : Prop :=
  ∃ i j cv, i ≤ 4 ∧ j ≤ 4 ∧ i + j + n = 8 ∧ bits = bitsL i j ∧ a = { tmps := tmR s g c e i j cv, defers := [] } ∧ HD B0 c T Sent g w0 gs ls j cv w
def NR (nc : Nat) : Nat → Nat → Nat
  | 0, _ => 0
  | n + 1, m => NR nc n m + nc + 4
set_option maxHeartbeats 8000000 in
theorem drawn_c (hOk : OkT O T) : ∃ nc : Nat, ∀ (md : Region.Mode) (Sent : Nat → Prop) (w0 w : World) (ls : List DLink) (pad : List Value) (e : Int) (Q : Exit → Act → World → (Nat → Prop) → Prop) (t : Nat), B0 ≤ w0.heap.size → (∀ b, Sent b → b < w0.heap.size) → ls.length ≤ 16 → pad.length = 32 - 2 * ls.length → HB B0 c T Sent g w0 (gC s c ls pad) w →
    (∀ r cv w', w0.heap.size ≤ r → r < w'.heap.size → r ≠ g → HB B0 c T (fun b => Sent b ∨ b = r) g w0 (gC s c ls pad) w' → Q .normal { tmps := tmR s g c e 4 4 cv, defers := [] } w' (fun b => Sent b ∨ b = r)) →
    OS Try.prog B0 c T O PayL (NR nc 8) 102 sfOps (Region.linearise.go md sfOps 9 t (Array.replicate 9 false) []) [ls] Sent Q { tmps := tmR s g c e 0 0 undef, defers := [] } w := by
  have hcand := candidate_c (B0 := B0) (c := c) (T := T) (s := s) (g := g) (Pay := PayL) hOk
  let nc : Nat := 0
  refine ⟨nc, fun md Sent w0 w ls pad e Q t hB0 hSt hfit hpl hF hQ => ?_⟩
  have Tm := termsP B0 c T Sent
  refine os_orders (FR B0 c T Sent s g w0 (gC s c ls pad) ls e) (NR nc) 8 ?_ ?_ 8 t _ _ w ⟨0, 0, undef, by omega, by omega, rfl, rfl, rfl, hF, fun h => absurd h (by omega)⟩
  · rintro bits a w ⟨i, j, cv, hi, hj, hn, rfl, rfl, hD⟩
    obtain rfl : i = 4 := by omega
    obtain rfl : j = 4 := by omega
    refine ⟨ready_sf md 4 4, ?_⟩
    refine ItS.more (N := fun _ => 0) ?_ (fun m => Nat.zero_le _)
    co_applyP os_send (xs := []) rfl (by rfl)
    intro w1 hR
    replace hD := hD.rely hR
    obtain ⟨r, rfl, hr0, hon⟩ := hD.cnd rfl
    refine ⟨_, .tuple #[], (· = r), fun d => ⟨?_, ?_⟩, ⟨r, rfl, rfl, hon.blk⟩, ?_, fun w₂ h₂ => ⟨fun m => m + 1, os_nil ?_⟩⟩
    · rfl
    · rfl
    · rintro b rfl
      exact ⟨hon.low, hon.lt, hon.notC, hon.uns⟩
    · have h2 := hD.rely h₂
      have h3 := hon.rely h₂
      exact hQ r _ w₂ hr0 h3.lt h3.neg ⟨h2.hb.blk, h2.hb.low, h2.hb.ne, fun h => h.elim h2.hb.uns fun e => h3.neg e.symm, h2.hb.cls, h2.hb.chn, h2.hb.kp⟩
  · rintro n bits a w ⟨i, j, cv, hi, hj, hn, rfl, rfl, hD⟩
    have hr := ready_sf md ⟨i, by omega⟩ ⟨j, by omega⟩
    simp only at hr
    rw [hr]
    refine ⟨by split <;> split <;> simp_all <;> omega, fun x hx rest hrest => ?_⟩
    have hcase : (x = i ∧ i < 4) ∨ (x = 4 + j ∧ j < 4) := by
      rcases List.mem_append.1 hx with h | h
      · split at h
        · exact .inl ⟨by simpa using h, by assumption⟩
        · simp at h
      · rcases List.mem_append.1 h with h | h
        · split at h
          · exact .inr ⟨by simpa using h, by assumption⟩
          · simp at h
        · split at h
          · rename_i h4; omega
          · simp at h
    clear hx hr
    rcases hcase with ⟨rfl, h4⟩ | ⟨rfl, h4⟩
    · have hb := bits_a x j h4
      rw [hb] at hrest
      have hgo : ∀ w', HD B0 c T Sent g w0 (gC s c ls pad) ls j cv w' → OS Try.prog B0 c T O PayL (NR nc n) 102 sfOps rest [ls] Sent Q { tmps := tmR s g c e (x + 1) j cv, defers := [] } w' := fun w' h' => hrest _ _ ⟨x + 1, j, cv, by omega, hj, by omega, rfl, rfl, h'⟩
      clear hrest hb
      refine ItS.more (N := fun m => NR nc n m + 1) ?_ (fun m => by simp only [NR]; omega)
      have hx : x = 0 ∨ x = 1 ∨ x = 2 ∨ x = 3 := by omega
      rcases hx with rfl | rfl | rfl | rfl
      · simp [tmR, wh]
        dsimp only [sfOps, Try.f102]
        co_applyP os_cons_k rfl (by rfl)
        intro w1 hR K hK
        replace hD := hD.rely hR
        go_simp
        refine hK _ _ ⟨?_, hgo _ hD⟩
        co_quiet Tm
      · simp [tmR, wh]
        dsimp only [sfOps, Try.f102]
        co_applyP os_cons_k rfl (by rfl)
        intro w1 hR K hK
        replace hD := hD.rely hR
        go_simp
        refine hK _ _ ⟨?_, hgo _ hD⟩
        co_still Tm
      · simp [tmR, wh]
        dsimp only [sfOps, Try.f102]
        co_applyP os_cons_k rfl (by rfl)
        intro w1 hR K hK
        replace hD := hD.rely hR
        go_simp
        refine hK _ _ ⟨?_, hgo _ hD⟩
        co_still Tm
      · simp [tmR, wh]
        dsimp only [sfOps, Try.f102]
        co_applyP os_cons_k rfl (by rfl)
        intro w1 hR K hK
        replace hD := hD.rely hR
        have hc := hD.hb.chan hpl hfit
        go_simp
        refine hK _ _ ⟨?_, hgo _ hD⟩
        refine ⟨Grow.refl _ _, fun _ _ _ => rfl, ?_⟩
        co_evs (exact hD.hb.ev _ _)
    · have hb := bits_b i j h4
      rw [hb] at hrest
      have hgo : ∀ cv' w', HD B0 c T Sent g w0 (gC s c ls pad) ls (j + 1) cv' w' → OS Try.prog B0 c T O PayL (NR nc n) 102 sfOps rest [ls] Sent Q { tmps := tmR s g c e i (j + 1) cv', defers := [] } w' := fun cv' w' h' => hrest _ _ ⟨i, j + 1, cv', hi, by omega, by omega, rfl, rfl, h'⟩
      clear hrest hb
      have hx : j = 0 ∨ j = 1 ∨ j = 2 ∨ j = 3 := by omega
      rcases hx with rfl | rfl | rfl | rfl
      · refine ItS.more (N := fun m => NR nc n m + 1) ?_ (fun m => by simp only [NR]; omega)
        simp [tmR, wh]
        dsimp only [sfOps, Try.f102]
        co_applyP os_cons_k rfl (by rfl)
        intro w1 hR K hK
        replace hD := hD.rely hR
        go_simp
        refine hK _ _ ⟨?_, hgo cv _ ⟨hD.hb, fun h => absurd h (by omega)⟩⟩
        co_quiet Tm
      · refine ItS.more (N := fun m => NR nc n m + 1) ?_ (fun m => by simp only [NR]; omega)
        simp [tmR, wh]
        dsimp only [sfOps, Try.f102]
        co_applyP os_cons_k rfl (by rfl)
        intro w1 hR K hK
        replace hD := hD.rely hR
        go_simp
        refine hK _ _ ⟨?_, hgo cv _ ⟨hD.hb, fun h => absurd h (by omega)⟩⟩
        co_still Tm
      · refine ItS.more (N := fun m => NR nc n m + 1) ?_ (fun m => by simp only [NR]; omega)
        simp [tmR, wh]
        dsimp only [sfOps, Try.f102]
        co_applyP os_cons_k rfl (by rfl)
        intro w1 hR K hK
        replace hD := hD.rely hR
        go_simp
        refine hK _ _ ⟨?_, hgo cv _ ⟨hD.hb, fun h => absurd h (by omega)⟩⟩
        co_still Tm
      · refine ItS.more (N := fun m => NR nc n m + nc + 3) ?_ (fun m => by simp only [NR]; omega)
        simp [tmR, wh]
        dsimp only [sfOps, Try.f102]
        co_applyP os_callG rfl (by rfl) rfl
        · walk_nrm
          exact hcand Sent ls pad w0 _ hB0 hSt hfit hpl hD.hb
        rintro v w' S' ⟨rfl, r, rfl, hr0, hF', hon⟩
        exact hgo _ w' ⟨hF', fun _ => ⟨r, rfl, hr0, hon⟩⟩
end
end Go.Proofs.Ytlkhknoaifbajaa

/- THE SENDER's WALK: sendFrom without edits. -/
namespace Go.Proofs.Ytlkhknoaifbajaa
open Go.Conc Go.RowKit M
set_option linter.unusedVariables false
set_option linter.unusedSimpArgs false
set_option maxRecDepth 100000

section
variable {B0 c : Nat} {T : Cls} {O : Nat → Prop} {s : ByteArray} {g : Nat}
theorem events_len_str (s : ByteArray) (w : World) (es : Array Event) : (Builtin.len_ #[9] 3 #[.string s]).events Try.prog w es = es := by
  have h : Try.prog.underlying 9 = some .string := by rfl
  simp [Builtin.len_, Builtin.lenOf, run_underlying h]
theorem postS_sent {Sent : Nat → Prop} {w0 w w' : World} {ls : List DLink} {pad : List Value} {r : Nat} (hk : Kp B0 c T g w0 w) (hSt : ∀ b, Sent b → b < w.heap.size) (hpl : pad.length = 32 - 2 * ls.length)
    (h1 : w.heap.size ≤ r) (h2 : r < w'.heap.size) (h : HB B0 c T (fun b => Sent b ∨ b = r) g w (gC s c ls pad) w') : PostS B0 c T s g Sent w0 w ls (.tuple #[]) w' (fun b => Sent b ∨ b = r) := by
  have hs := h.kp.1.size
  refine ⟨fun b hb => ?_, hs, pad, hpl, h.base hk⟩
  rcases hb with hb | rfl
  · exact ⟨Nat.lt_of_lt_of_le (hSt b hb) hs, .inl hb⟩
  · exact ⟨h2, .inr h1⟩
set_option maxHeartbeats 8000000 in
theorem sendFrom00_c (hOk : OkT O T) (hsz : s.size ≤ 16) : ∃ N, SFrom B0 c T O s g 0 s.size N := by
  obtain ⟨nd, hd⟩ := drawn_c (B0 := B0) (c := c) (g := g) (s := s) hOk
  co_applyP Exists.intro
  intro Sent w0 w ls pad hpre hfit
  have hlist : (genL 0 (s.data.toList.drop s.size)).map (ls ++ ·) = [ls] := by
    have : s.data.toList.drop s.size = [] := List.drop_of_length_le (Nat.le_of_eq (by rw [Array.length_toList]; rfl))
    rw [this]; simp [genL, gen0]
  rw [hlist]
  obtain ⟨hB0, hSt, hpl, hF⟩ := hpre
  have Tm := termsP B0 c T Sent
  have hkp := hF.kp
  replace hF := hF.rebase
  have hl16 : ls.length ≤ 16 := by omega
  co_applyP callsS_of_ws (fn := Try.f102) (by rfl) (by rfl) rfl
  co_applyP ws_seqL
  co_applyP ws_seq (xs := []) (xs' := [ls])
  co_applyP ws_of_wpC
  co_reg Tm
  co_op HB.rely hF (co_quiet Tm)
  co_op HB.rely hF (co_quiet Tm)
  co_opw HB.rely hF (skip) (co_still Tm)
  co_opw HB.rely hF (skip) (co_still Tm)
  co_opw HB.rely hF (have hc := hF.text) (refine ⟨Grow.refl _ _, fun _ _ _ => rfl, ?_⟩; co_evs (exact hF.ev _ _))
  clear hc
  have hln := events_len_str s
  co_opw HB.rely hF (skip) (co_still Tm)
  clear hln
  co_opw HB.rely hF (skip) (co_still Tm)
  co_apply opsC_nil Tm
  simp only [ThenS]
  co_applyP ws_cond (t := true) (by rfl)
  simp only [if_true]
  co_applyP ws_region_draw
  intro w1 h1 t
  replace hF := (hF.rely h1).rely (odP w1)
  have HQ : ∀ (Q : Exit → Act → World → (Nat → Prop) → Prop), (∀ r cv w', w.heap.size ≤ r → r < w'.heap.size → r ≠ g → HB B0 c T (fun b => Sent b ∨ b = r) g w (gC s c ls pad) w' → Q .normal { tmps := tmR s g c 0 4 4 cv, defers := [] } w' (fun b => Sent b ∨ b = r)) →
      OS Try.prog B0 c T O PayL (NR nd 8) 102 sfOps (Region.schedule (Try.prog.follows .mixedOrders) sfOps t) [ls] Sent Q { tmps := tmR s g c 0 0 0 undef, defers := [] } { w1 with drawn := w1.drawn + 1 } := fun Q hQ => by
    unfold Region.schedule
    split
    · exact hd .any Sent w _ ls pad 0 Q t hB0 hSt hl16 hpl hF hQ
    · exact hd _ Sent w _ ls pad 0 Q (t / 2) hB0 hSt hl16 hpl hF hQ
  refine HQ _ fun r cv w' hr1 hr2 hr3 hF2 => ?_
  simp only [ThenS]
  have Tm' := termsP B0 c T (fun b => Sent b ∨ b = r)
  have hk2 := hF2.kp
  replace hF2 := hF2.rebase
  simp only [tmR]
  co_applyP ws_of_wpC
  co_apply wpC_seq Tm'
  co_reg Tm'
  co_op HB.rely hF2 (co_quiet Tm')
  co_op HB.rely hF2 (co_quiet Tm')
  co_apply opsC_nil Tm'
  co_then
  co_apply wpC_cond Tm' (t := false) (by rfl)
  simp only [Bool.false_eq_true, if_false]
  co_apply wpC_skip Tm'
  have hle := hF2.kp.1.size
  exact ⟨rfl, _, resultsC_none (by rfl) _, postS_sent hkp (fun b h => by have := hSt b h; omega) hpl hr1 (by omega) (hF2.base hk2)⟩
end
end Go.Proofs.Ytlkhknoaifbajaa

/- THE SENDER's WALK: sendFrom without edits, within the input. -/
namespace Go.Proofs.Ytlkhknoaifbajaa
open Go.Conc Go.RowKit M
set_option linter.unusedVariables false
set_option linter.unusedSimpArgs false
set_option maxRecDepth 100000

section
variable {B0 c : Nat} {T : Cls} {O : Nat → Prop} {s : ByteArray} {g : Nat}
set_option maxHeartbeats 8000000 in
theorem sendFrom0_c (pos : Nat) (b : UInt8) (t : List UInt8) (ht : s.data.toList.drop pos = b :: t) (hsz : s.size ≤ 16) {Na : Nat → Nat} (ha : SAt B0 c T O s g 0 pos b t Na) : ∃ N, SFrom B0 c T O s g 0 pos N := by
  obtain ⟨hlt, _, _⟩ := string_at ht
  have hne : ((pos : Int) == (s.size : Int)) = false := by simp; omega
  co_applyP Exists.intro
  intro Sent w0 w ls pad hpre hfit
  have hlist : (genL 0 (s.data.toList.drop pos)).map (ls ++ ·) = (atL 0 b t).map (ls ++ ·) := by
    rw [ht]; unfold atL; simp [genL, gen0]
  rw [hlist]
  obtain ⟨hB0, hSt, hpl, hF⟩ := hpre
  have Tm := termsP B0 c T Sent
  have hkp := hF.kp
  replace hF := hF.rebase
  co_applyP callsS_of_ws (fn := Try.f102) (by rfl) (by rfl) rfl
  co_applyP ws_seqL
  co_applyP ws_seq (xs := []) (xs' := (atL 0 b t).map (ls ++ ·))
  co_applyP ws_of_wpC
  co_reg Tm
  co_op HB.rely hF (co_quiet Tm)
  co_op HB.rely hF (co_quiet Tm)
  co_opw HB.rely hF (skip) (co_still Tm)
  co_opw HB.rely hF (skip) (co_still Tm)
  co_opw HB.rely hF (have hc := hF.text) (refine ⟨Grow.refl _ _, fun _ _ _ => rfl, ?_⟩; co_evs (exact hF.ev _ _))
  clear hc
  have hln := events_len_str s
  co_opw HB.rely hF (skip) (co_still Tm)
  clear hln
  co_opw HB.rely hF (skip) (co_still Tm)
  co_apply opsC_nil Tm
  simp only [ThenS]
  co_applyP ws_cond (t := false) (by rfl)
  simp only [Bool.false_eq_true, if_false]
  co_applyP ws_region
  simp only [List.size_toArray, List.length_cons, List.length_nil, Nat.reduceAdd, Nat.zero_add, List.range, List.range.loop]
  co_applyP os_cons_k rfl (by rfl)
  intro _ hR K hK
  replace hF := HB.rely hF hR
  clear hR
  go_simp
  try (unfold stored; go_simp)
  refine hK _ _ ⟨?_, ?_⟩
  · (co_quiet Tm)
  clear hK K
  try walk_nrm
  co_applyP os_cons_k rfl (by rfl)
  intro _ hR K hK
  replace hF := HB.rely hF hR
  clear hR
  go_simp
  try (unfold stored; go_simp)
  refine hK _ _ ⟨?_, ?_⟩
  · (co_quiet Tm)
  clear hK K
  try walk_nrm
  co_applyP os_cons_k rfl (by rfl)
  intro _ hR K hK
  replace hF := HB.rely hF hR
  clear hR
  go_simp
  try (unfold stored; go_simp)
  refine hK _ _ ⟨?_, ?_⟩
  · (co_quiet Tm)
  clear hK K
  try walk_nrm
  have hle := hF.kp.1.size
  co_applyP os_callSL rfl (by rfl) rfl
  · walk_nrm
    exact ha Sent w _ ls pad ⟨by omega, fun b h => by have := hSt b h; omega, hpl, hF⟩ hfit
  rintro v3 w3 S' ⟨hS', hle', pad3, hpl3, hF4⟩
  walk_nrm
  co_applyP os_nil
  simp only [ThenS]
  have Tm' := termsP B0 c T S'
  have hk4 := hF4.kp
  replace hF4 := hF4.rebase
  clear hF
  co_applyP ws_of_wpC
  co_apply wpC_seq Tm'
  co_reg Tm'
  co_op HB.rely hF4 (co_quiet Tm')
  co_op HB.rely hF4 (co_quiet Tm')
  co_apply opsC_nil Tm'
  co_then
  co_apply wpC_cond Tm' (t := false) (by rfl)
  simp only [Bool.false_eq_true, if_false]
  co_apply wpC_skip Tm'
  have hle4 := hF4.kp.1.size
  refine ⟨rfl, _, resultsC_none (by rfl) _, fun b h => ?_, by omega, _, hpl3, hF4.base (hkp.trans hk4)⟩
  have h1 := hS' b h
  exact ⟨by omega, h1.2.imp id fun h2 => by omega⟩
/-- All of the input, without edits. -/
theorem sendFrom0_all (hOk : OkT O T) (hsz : s.size ≤ 16) : ∀ k pos, pos + k = s.size → ∃ N, SFrom B0 c T O s g 0 pos N := by
  intro k
  induction k with
  | zero =>
    intro pos h
    obtain rfl : pos = s.size := by omega
    exact sendFrom00_c hOk hsz
  | succ k ih =>
    intro pos h
    obtain ⟨Nf, hf⟩ := ih (pos + 1) (by omega)
    obtain ⟨Nw, hw⟩ := sendWith_c 0 (pos + 1) hf
    have hl : pos < s.data.toList.length := by rw [Array.length_toList]; show pos < s.size; omega
    obtain ⟨b, t, ht⟩ : ∃ b t, s.data.toList.drop pos = b :: t := ⟨_, _, List.drop_eq_getElem_cons hl⟩
    obtain ⟨Na, ha⟩ := sendAt0_c pos b t ht hsz hw
    exact sendFrom0_c pos b t ht hsz ha
end
end Go.Proofs.Ytlkhknoaifbajaa

/- THE SENDER's WALK: sendFrom with edits left: the row of sounds that are put in. -/
namespace Go.Proofs.Ytlkhknoaifbajaa
open Go.Conc Go.RowKit M
set_option linter.unusedVariables false
set_option linter.unusedSimpArgs false
set_option maxRecDepth 100000

theorem uponK_buildSlice {P : Program} {o : Oper} {a : Act} {K : Act → World → Prop} {w w' : World} {v' : Value} (t : TypeId) (len : Nat) (parts : Array (Nat × Operand)) (ho : o.op = .buildSlice t len parts)
    (hr : (Instr.buildSlice t len (parts.map fun (i, x) => (i, a.eval x))).run P w = .ok v' w') (h : K (a.put o.dst v') w') : uponK o a K ((execOp a.eval o).run P w) := by
  unfold execOp
  simp only [ho, Sem.run_bind, Sem.run_pure, Result.andThen_ok, hr]
  exact h
theorem events_buildSlice_op {P : Program} {o : Oper} {a : Act} {w w' : World} {v' : Value} (t : TypeId) (len : Nat) (parts : Array (Nat × Operand)) (ho : o.op = .buildSlice t len parts)
    (hr : (Instr.buildSlice t len (parts.map fun (i, x) => (i, a.eval x))).run P w = .ok v' w') : (execOp a.eval o).events P w #[] = (Instr.buildSlice t len (parts.map fun (i, x) => (i, a.eval x))).events P w #[] := by
  unfold execOp
  simp only [ho, Sem.events_bind, Sem.events_pure, hr, Result.evThen_ok]
theorem infoU8P : (Try.prog.info? 5).map (fun i => (i.zero, i.size, i.bytes)) = some (some (.int .u8 0), 1, 1) := by kernel_rfl
def tiP : Array (Nat × Value) := #[(0, .int .u8 116), (1, .int .u8 105)]
theorem fill_ti : Instr.fill (fun i => some (i, 1)) (Array.map (fun x => (Value.int IntKind.u8 0).cells[x % (Value.int IntKind.u8 0).cells.size]!) (Array.range 2)) [(0, Value.int IntKind.u8 116), (1, Value.int IntKind.u8 105)] = some #[Value.int IntKind.u8 116, Value.int IntKind.u8 105] := by kernel_rfl
theorem run_ti (w : World) : (Instr.buildSlice 22 2 tiP).run Try.prog w = .ok (.slice (some ⟨w.heap.size, 0, none⟩) 2 2) (w.alloc (.cells #[.int .u8 116, .int .u8 105] 5)) := by
  obtain ⟨i0, hi, hz0, hz1, hz2⟩ := info_parts infoU8P
  simp [Instr.buildSlice, tiP, run_underlying Try.underlying22, sizeOf, typeInfo, hi, hz1, zeroValue, hz0, newRow, fill_ti]
theorem events_ti (w : World) (es : Array Event) : (Instr.buildSlice 22 2 tiP).events Try.prog w es = es := by
  obtain ⟨i0, hi, hz0, hz1, hz2⟩ := info_parts infoU8P
  simp [Instr.buildSlice, tiP, run_underlying Try.underlying22, sizeOf, typeInfo, hi, hz1, zeroValue, hz0, newRow, fill_ti]
theorem events_len_row (v : Option Addr) (l k : Nat) (w : World) (es : Array Event) : (Builtin.len_ #[22] 3 #[.slice v l k]).events Try.prog w es = es := by
  simp [Builtin.len_, Builtin.lenOf, run_underlying Try.underlying22]
end Go.Proofs.Ytlkhknoaifbajaa

/- THE SENDER's WALK: a row of bytes of its own that has been marked as a text's. -/
namespace Go.Proofs.Ytlkhknoaifbajaa
open Go.Conc Go.RowKit M
set_option linter.unusedVariables false
set_option linter.unusedSimpArgs false
set_option maxRecDepth 100000

structure OZ (B0 c : Nat) (T : Cls) (Sent : Nat → Prop) (g : Nat) (b : Nat) (cs : List Value) (t : TypeId) (w : World) : Prop where
  blk : ∃ fz, w.heap[b]? = some (.cells cs.toArray t fz)
  nc : ¬ T cs.toArray t b
  low : B0 ≤ b
  ne : b ≠ c
  neg : b ≠ g
  uns : ¬ Sent b
section
variable {B0 c : Nat} {T : Cls} {O : Nat → Prop} {Sent S' : Nat → Prop} {g b : Nat} {w w' w₁ : World} {cs : List Value} {t : TypeId}
theorem OZ.lt (h : OZ B0 c T Sent g b cs t w) : b < w.heap.size := by obtain ⟨fz, h1⟩ := h.blk; exact heap_low h1
theorem OZ.notC (h : OZ B0 c T Sent g b cs t w) : ¬ isC T w b := by obtain ⟨fz, h1⟩ := h.blk; exact not_isC1 h1 h.nc
theorem OZ.rely (h : OZ B0 c T Sent g b cs t w) (r : RelyP B0 c T w w₁) : OZ B0 c T Sent g b cs t w₁ :=
  ⟨by obtain ⟨fz, h1⟩ := h.blk; exact ⟨fz, (r.2 b (heap_low h1) h.ne (.inr h.notC)).trans h1⟩, h.nc, h.low, h.ne, h.neg, h.uns⟩
theorem OZ.kp (h : OZ B0 c T Sent g b cs t w) (k : Kp B0 c T g w w') (hS : ¬ S' b) : OZ B0 c T S' g b cs t w' :=
  ⟨by obtain ⟨fz, h1⟩ := h.blk; exact ⟨fz, (k.2 b (heap_low h1) h.ne h.neg (.inr h.notC)).trans h1⟩, h.nc, h.low, h.ne, h.neg, hS⟩
theorem OZ.cell (h : OZ B0 c T Sent g b cs t w) (j : Nat) {u : Value} (hu : cs[j]? = some u) : w.cell? ⟨b, j, none⟩ = some u := by
  obtain ⟨fz, h1⟩ := h.blk
  simp [World.cell?, h1, hu]
theorem OZ.ev (h : OZ B0 c T Sent g b cs t w) (j : Nat) (wr : Bool) :
    EvF w.heap.size ⟨.cell ⟨b, j, none⟩, wr, false⟩ ∧ ∀ x, (MemAct.ofEvent ⟨.cell ⟨b, j, none⟩, wr, false⟩).touch? = some x → x.loc.isMemory = true → MayP B0 (isC T w) Sent x := evP_own h.low h.lt h.notC h.uns
theorem freeze_same {fz : Nat × Nat} {cs : Array Value} (a : Addr) (h : w.heap[a.block]? = some (.cells cs t fz)) : (∃ fz', (w.freeze a 1).heap[a.block]? = some (.cells cs t fz')) ∧ (∀ k, k ≠ a.block → (w.freeze a 1).heap[k]? = w.heap[k]?) ∧ (w.freeze a 1).heap.size = w.heap.size := by
  obtain ⟨lo, hi⟩ := fz
  refine ⟨⟨if lo == hi then (a.off, a.off + 1) else (min lo a.off, max hi (a.off + 1)), ?_⟩, fun k hk => ?_, ?_⟩
  · simp [World.freeze, Array.getElem?_modify, h]
  · simp [World.freeze, Array.getElem?_modify, Ne.symm hk]
  · simp [World.freeze]
/-- The block is marked: nothing else turns, nothing is listed. -/
theorem dp_freeze (j : Nat) (h : OZ B0 c T Sent g b cs t w) : DP B0 T Sent w (w.freeze ⟨b, j, none⟩ 1) #[] ∧ OZ B0 c T Sent g b cs t (w.freeze ⟨b, j, none⟩ 1) := by
  obtain ⟨fz, h1⟩ := h.blk
  obtain ⟨⟨fz', h2⟩, h3, h4⟩ := freeze_same (w := w) ⟨b, j, none⟩ h1
  have hcl : ∀ k, isC T (w.freeze ⟨b, j, none⟩ 1) k ↔ isC T w k := fun k => by
    by_cases e : k = b
    · subst e; exact ⟨fun x => absurd x (not_isC1 h2 h.nc), fun x => absurd x (not_isC1 h1 h.nc)⟩
    · unfold isC; rw [h3 k e]
  refine ⟨⟨⟨rfl, rfl, rfl, Nat.le_of_eq h4.symm, fun k _ => hcl k⟩, fun k hk hx => h3 k ?_, by simp⟩, ⟨⟨fz', h2⟩, h.nc, h.low, h.ne, h.neg, h.uns⟩⟩
  rintro rfl
  rcases hx with h5 | h5 | h5
  · have := h.low; omega
  · exact h.notC h5
  · exact h.uns h5
theorem hb_freeze {w0 : World} {gs : List Value} (j : Nat) (hb : HB B0 c T Sent g w0 gs w) (h : OZ B0 c T Sent g b cs t w) (hn : w0.heap.size ≤ b) : HB B0 c T Sent g w0 gs (w.freeze ⟨b, j, none⟩ 1) := by
  obtain ⟨fz, h1⟩ := h.blk
  obtain ⟨⟨fz', h2⟩, h3, h4⟩ := freeze_same (w := w) ⟨b, j, none⟩ h1
  exact hb.ptw h4 h3 rfl rfl rfl hn h.neg
theorem run_conv_ti (v : Addr) (n k : Nat) (w : World) {cs : Array Value} {fz : Nat × Nat} (h : w.heap[v.block]? = some (.cells cs t fz)) : (convert 22 22 (.slice (some v) n k)).run Try.prog w = .ok (.slice (some v) n k) (w.freeze ⟨v.block, cs.size, none⟩ 1) := by
  have h8 : Try.prog.underlying 5 = some (.int .u8) := by rfl
  simp [convert, run_underlying Try.underlying22, run_underlying h8, markStringish, World.shape?, h]
theorem events_conv_ti (v : Addr) (n k : Nat) (w : World) (es : Array Event) {cs : Array Value} {fz : Nat × Nat} (h : w.heap[v.block]? = some (.cells cs t fz)) : (convert 22 22 (.slice (some v) n k)).events Try.prog w es = es := by
  have h8 : Try.prog.underlying 5 = some (.int .u8) := by rfl
  simp [convert, run_underlying Try.underlying22, run_underlying h8, markStringish, World.shape?, h]
end
end Go.Proofs.Ytlkhknoaifbajaa

/- THE SENDER's WALK: sendFrom with edits left: what is put in. -/
namespace Go.Proofs.Ytlkhknoaifbajaa
open Go.Conc Go.RowKit M
set_option linter.unusedVariables false
set_option linter.unusedSimpArgs false
set_option maxRecDepth 100000

noncomputable def sfTail : Code := match Try.f102.body with
  | some (.seq _ x) => x
  | _ => .skip
section
variable {B0 c : Nat} {T : Cls} {O : Nat → Prop} {s : ByteArray} {g : Nat}
structure HK (B0 c : Nat) (T : Cls) (Sent : Nat → Prop) (g : Nat) (w0 : World) (gs : List Value) (q : Nat) (w : World) : Prop where
  hb : HB B0 c T Sent g w0 gs w
  on : OZ B0 c T Sent g q [.int .u8 116, .int .u8 105] 5 w
theorem HK.rely {Sent : Nat → Prop} {w0 w w₁ : World} {gs : List Value} {q : Nat} (h : HK B0 c T Sent g w0 gs q w) (x : RelyP B0 c T w w₁) : HK B0 c T Sent g w0 gs q w₁ := ⟨h.hb.rely x, h.on.rely x⟩
def insX (ls : List DLink) (e : Nat) (t : List UInt8) (j : Nat) : List (List DLink) := (genL e t).map (ls ++ [edL (if j = 0 then 116 else 105) 43] ++ ·)
set_option maxHeartbeats 8000000 in
theorem tail_c (hOk : OkT O T) (e pos : Nat) (he : e ≤ 100) (hp : pos ≤ s.size) (hsz : s.size ≤ 16) {Nw : Nat → Nat} (hw : SWith B0 c T O s g e pos Nw) : ∃ N, ∀ (Sent : Nat → Prop) (w0 w : World) (ls : List DLink) (pad : List Value) (E : Int) (x8 x9 x10 x11 x12 x13 x14 x15 x16 x17 x18 x19 x20 x21 x22 x23 x24 x25 x26 : Value), E = ((e + 1 : Nat) : Int) → PreS B0 c T s g Sent w0 w ls pad → ls.length + (s.size - pos) + (e + 1) ≤ 16 →
    WS Try.prog B0 c T O PayL N 102 sfTail (runX (insX ls e (s.data.toList.drop pos)) 0 2) Sent (bodyPostS Try.prog Try.f102 (PostS B0 c T s g Sent w0 w ls)) { tmps := #[.pointer (some ⟨g, 0, none⟩), .int .i64 (pos : Int), .int .i64 E, undef, undef, undef, undef, undef, x8, x9, x10, x11, x12, x13, x14, x15, x16, x17, x18, x19, x20, x21, x22, x23, x24, x25, x26, undef, undef, undef, undef, undef, undef, undef, undef, undef, undef, undef, undef, undef, undef, undef, undef], defers := [] } w := by
  co_applyP Exists.intro
  intro Sent w0 w ls pad E x8 x9 x10 x11 x12 x13 x14 x15 x16 x17 x18 x19 x20 x21 x22 x23 x24 x25 x26 hE hpre hfit
  have hgt : (0 : Int) < E := by omega
  have hw2 : IntKind.i64.wrap (E - 1) = (e : Int) := by rw [hE, IntKind.wrap_i64]; omega
  clear hE
  obtain ⟨hB0, hSt, hpl, hF⟩ := hpre
  have Tm := termsP B0 c T Sent
  have hkp := hF.kp
  replace hF := hF.rebase
  generalize hL : runX (insX ls e (s.data.toList.drop pos)) 0 2 = L
  dsimp only [sfTail, Try.f102]
  co_applyP ws_seq (xs := []) (xs' := L)
  co_applyP ws_of_wpC
  co_reg Tm
  co_op HB.rely hF (co_quiet Tm)
  co_op HB.rely hF (co_quiet Tm)
  co_apply opsC_nil Tm
  simp only [ThenS]
  co_applyP ws_cond (t := true) (by rfl)
  simp only [if_true]
  co_applyP ws_seq (xs := []) (xs' := L)
  co_applyP ws_region
  simp only [List.size_toArray, List.length_cons, List.length_nil, Nat.reduceAdd, Nat.zero_add, List.range, List.range.loop]
  co_applyP os_make rfl (by rfl)
  intro w1 hR K hK
  replace hF := hF.rely hR
  clear hR
  refine uponK_buildSlice 22 2 #[(0, .const (.int .u8 116)), (1, .const (.int .u8 105))] rfl (by simpa [tiP, Act.eval] using run_ti w1) ?_
  refine hK _ _ (by simp) fun hO => ⟨?_, ?_⟩
  · rw [listed_nil ((events_buildSlice_op (w' := w1.alloc (.cells #[.int .u8 116, .int .u8 105] 5)) 22 2 #[(0, .const (.int .u8 116)), (1, .const (.int .u8 105))] rfl (by simpa [tiP, Act.eval] using run_ti w1)).trans (by simpa [tiP, Act.eval] using events_ti w1 #[]))]
    exact dp_alloc _ fun cs t fz h => hOk.own _ _ _ hO
  clear hK K
  have hs1 := hF.kp.1.size
  have hlo := hF.chn
  have hgl := heap_low hF.blk
  have hK1 : HK B0 c T Sent g w (gC s c ls pad) w1.heap.size (w1.alloc (.cells #[.int .u8 116, .int .u8 105] 5)) :=
    ⟨hF.alloc _, ⟨⟨(0, 0), heap_alloc_new w1 _⟩, hOk.own _ _ _ hO, by omega, by omega, by omega, fun h => by have := hSt _ h; omega⟩⟩
  clear hF hO
  generalize w1.heap.size = q at *
  generalize w1.alloc (.cells #[.int .u8 116, .int .u8 105] 5) = w2 at *
  try walk_nrm
  co_applyP os_of_opsC
  co_apply opsC_cons_k rfl (by rfl)
  intro w3 hR K hK
  replace hK1 := hK1.rely hR
  clear hR
  obtain ⟨fz, hfz⟩ := hK1.on.blk
  have hrun := run_conv_ti ⟨q, 0, none⟩ 2 2 w3 hfz
  have hevs := events_conv_ti ⟨q, 0, none⟩ 2 2 w3 #[] hfz
  go_simp
  refine hK _ _ ⟨?_, ?_⟩
  · rw [listed_nil (by simp [go_sem, hevs])]
    exact (dp_freeze 2 hK1.on).1
  clear hK K hrun hevs hfz
  have hK1 : HK B0 c T Sent g w (gC s c ls pad) q (w3.freeze ⟨q, 2, none⟩ 1) := ⟨hb_freeze 2 hK1.hb hK1.on hs1, (dp_freeze 2 hK1.on).2⟩
  try walk_nrm
  have hln := events_len_row
  co_opw HK.rely hK1 (skip) (co_still Tm)
  clear hln
  co_op HK.rely hK1 (co_quiet Tm)
  co_apply opsC_nil Tm
  simp only [ThenS]
  co_applyP ws_block
  rw [← hL]
  co_applyP ws_loop 2 (insX ls e (s.data.toList.drop pos)) (fun j a w' S => ∃ pad u7 u33 u34 u35 u36 u37 u38 u39 u40 u41 u42, a = { tmps := #[.pointer (some ⟨g, 0, none⟩), .int .i64 (pos : Int), .int .i64 E, undef, undef, undef, undef, u7, x8, x9, x10, x11, x12, x13, x14, x15, x16, x17, x18, x19, x20, x21, x22, x23, x24, x25, x26, .int .i64 E, .bool true, .slice (some ⟨q, 0, none⟩) 2 2, .slice (some ⟨q, 0, none⟩) 2 2, .int .i64 2, .int .i64 (j : Int), u33, u34, u35, u36, u37, u38, u39, u40, u41, u42], defers := [] } ∧ pad.length = 32 - 2 * ls.length ∧ HK B0 c T S g w (gC s c ls pad) q w' ∧ (∀ b, S b → b < w'.heap.size ∧ (Sent b ∨ w.heap.size ≤ b)))
  · rintro j a w' S hj ⟨pad2, u7, u33, u34, u35, u36, u37, u38, u39, u40, u41, u42, rfl, hpl2, hK2, hS⟩
    have Tm2 := termsP B0 c T S
    have hk2 := hK2.hb.kp
    replace hK2 : HK B0 c T S g w' (gC s c ls pad2) q w' := ⟨hK2.hb.rebase, hK2.on⟩
    have hle0 := hk2.1.size
    have hji : (j : Int) < 2 := by omega
    have hj0 : (0 : Int) ≤ (j : Int) := by omega
    have hwj : IntKind.i64.wrap ((j : Int) + 1) = ((j + 1 : Nat) : Int) := by rw [IntKind.wrap_i64]; omega
    have hbj : ([.int .u8 116, .int .u8 105] : List Value)[j]? = some (.int .u8 (((if j = 0 then (116 : UInt8) else 105).toNat : Nat) : Int)) := by
      match j, hj with
      | 0, _ => rfl
      | 1, _ => rfl
    have hX : insX ls e (s.data.toList.drop pos) j = (genL e (s.data.toList.drop pos)).map (ls ++ [edL (if j = 0 then 116 else 105) 43] ++ ·) := rfl
    rw [hX]
    generalize (if j = 0 then (116 : UInt8) else 105) = bj at *
    clear hX
    generalize hXL : (genL e (s.data.toList.drop pos)).map (ls ++ [edL bj 43] ++ ·) = XL
    co_applyP ws_seq (xs := []) (xs' := XL)
    co_applyP ws_of_wpC
    co_reg Tm2
    co_op HK.rely hK2 (co_quiet Tm2)
    co_apply opsC_nil Tm2
    simp only [ThenS]
    co_applyP ws_seq (xs := []) (xs' := XL)
    co_applyP ws_of_wpC
    co_apply wpC_cond Tm2 (t := true) (by rfl)
    simp only [if_true]
    co_apply wpC_skip Tm2
    simp only [ThenS]
    co_applyP ws_seqL
    co_applyP ws_block
    co_applyP ws_seq (xs := []) (xs' := XL)
    co_applyP ws_of_wpC
    co_reg Tm2
    co_opw HK.rely hK2 (skip) (co_still Tm2)
    co_opw HK.rely hK2 (have hc := hK2.on.cell j hbj) (refine ⟨Grow.refl _ _, fun _ _ _ => rfl, ?_⟩; co_evs (exact hK2.on.ev _ _))
    clear hc
    co_op HK.rely hK2 (co_quiet Tm2)
    co_apply opsC_nil Tm2
    simp only [ThenS]
    co_applyP ws_region
    simp only [List.size_toArray, List.length_cons, List.length_nil, Nat.reduceAdd, Nat.zero_add, List.range, List.range.loop]
    co_applyP os_cons_k rfl (by rfl)
    intro _ hR K hK
    replace hK2 := HK.rely hK2 hR
    clear hR
    go_simp
    try (unfold stored; go_simp)
    refine hK _ _ ⟨?_, ?_⟩
    · (co_quiet Tm2)
    clear hK K
    try walk_nrm
    co_applyP os_cons_k rfl (by rfl)
    intro _ hR K hK
    replace hK2 := HK.rely hK2 hR
    clear hR
    go_simp
    try (unfold stored; go_simp)
    refine hK _ _ ⟨?_, ?_⟩
    · (co_quiet Tm2)
    clear hK K
    try walk_nrm
    co_applyP os_cons_k rfl (by rfl)
    intro _ hR K hK
    replace hK2 := HK.rely hK2 hR
    clear hR
    go_simp
    try (unfold stored; go_simp)
    refine hK _ _ ⟨?_, ?_⟩
    · (co_quiet Tm2)
    clear hK K
    try walk_nrm
    co_applyP os_cons_k rfl (by rfl)
    intro _ hR K hK
    replace hK2 := HK.rely hK2 hR
    clear hR
    go_simp
    try (unfold stored; go_simp)
    refine hK _ _ ⟨?_, ?_⟩
    · (co_quiet Tm2)
    clear hK K
    try walk_nrm
    co_applyP os_cons_k rfl (by rfl)
    intro _ hR K hK
    replace hK2 := HK.rely hK2 hR
    clear hR
    go_simp
    try (unfold stored; go_simp)
    refine hK _ _ ⟨?_, ?_⟩
    · (co_quiet Tm2)
    clear hK K
    try walk_nrm
    have hle2 := hK2.hb.kp.1.size
    co_applyP os_callSL rfl (by rfl) rfl
    · walk_nrm
      rw [← hXL]
      exact hw S _ _ ls pad2 bj 43 (.inr (.inl rfl)) ⟨by omega, fun b h => by have := (hS b h).1; omega, hpl2, hK2.hb.rebase⟩ (by omega)
    rintro v5 w5 S5 ⟨hS5, hle5, pad5, hpl5, hF5⟩
    have hq5 : ¬ S5 q := fun h => by
      rcases (hS5 q h).2 with h2 | h2
      · exact hK2.on.uns h2
      · have := hK2.on.lt; omega
    have Tm5 := termsP B0 c T S5
    have hk5 := (hk2.trans hK2.hb.kp).trans hF5.kp
    have hK5 : HK B0 c T S5 g w5 (gC s c ls pad5) q w5 := ⟨hF5.rebase, hK2.on.kp hF5.kp hq5⟩
    have hS6 : ∀ b, S5 b → b < w5.heap.size ∧ (Sent b ∨ w.heap.size ≤ b) := fun b h => by
      have h1 := hS5 b h
      refine ⟨h1.1, ?_⟩
      rcases h1.2 with h2 | h2
      · exact (hS b h2).2
      · right; omega
    clear hK2 hF5 hS5
    walk_nrm
    co_applyP os_nil
    simp only [InBlockS, ThenS]
    co_applyP ws_of_wpC
    co_reg Tm5
    co_op HK.rely hK5 (co_quiet Tm5)
    co_op HK.rely hK5 (co_quiet Tm5)
    co_apply opsC_nil Tm5
    have hle6 := hK5.hb.kp.1.size
    exact ⟨rfl, pad5, _, _, _, _, _, _, _, _, _, _, _, rfl, hpl5, ⟨hK5.hb.base hk5, hK5.on⟩, fun b h => ⟨by have := (hS6 b h).1; omega, (hS6 b h).2⟩⟩
  · rintro a w' S ⟨pad2, u7, u33, u34, u35, u36, u37, u38, u39, u40, u41, u42, rfl, hpl2, hK2, hS⟩
    have Tm2 := termsP B0 c T S
    have hk2 := hK2.hb.kp
    replace hK2 : HK B0 c T S g w' (gC s c ls pad2) q w' := ⟨hK2.hb.rebase, hK2.on⟩
    have hle0 := hk2.1.size
    co_applyP ws_of_wpC
    co_apply wpC_seq Tm2
    co_reg Tm2
    co_op HK.rely hK2 (co_quiet Tm2)
    co_apply opsC_nil Tm2
    co_then
    co_apply wpC_seq Tm2 (n₂ := 0)
    co_apply wpC_cond Tm2 (t := false) (by rfl)
    simp only [Bool.false_eq_true, if_false]
    co_apply wpC_exit Tm2
    have hle6 := hK2.hb.kp.1.size
    refine ⟨by simp, rfl, _, resultsC_none (by rfl) _, fun b h => ⟨by have := (hS b h).1; omega, (hS b h).2⟩, by omega, pad2, hpl2, hK2.hb.base (hkp.trans hk2)⟩
  · exact ⟨pad, _, _, _, _, _, _, _, _, _, _, _, rfl, hpl, hK1, fun b h => ⟨by have := hSt b h; have := hK1.hb.kp.1.size; omega, .inl h⟩⟩
end
end Go.Proofs.Ytlkhknoaifbajaa

/- THE SENDER's WALK: sendFrom with edits left. -/
namespace Go.Proofs.Ytlkhknoaifbajaa
open Go.Conc Go.RowKit M
set_option linter.unusedVariables false
set_option linter.unusedSimpArgs false
set_option maxRecDepth 100000

section
variable {B0 c : Nat} {T : Cls} {O : Nat → Prop} {s : ByteArray} {g : Nat}
theorem HB.base' {Sent : Nat → Prop} {w0 w w' : World} {gs : List Value} (h : HB B0 c T Sent g w gs w') (k : Kp B0 c T g w0 w) : HB B0 c T Sent g w0 gs w' := ⟨h.blk, h.low, h.ne, h.uns, h.cls, h.chn, k.trans h.kp⟩
theorem postS_trans {Sent S' S2 : Nat → Prop} {w0 w w3 wc w' : World} {ls : List DLink} {v : Value} (hk : Kp B0 c T g w0 w3) (hall : ∀ b, S' b → Sent b ∨ w.heap.size ≤ b) (hle : w.heap.size ≤ wc.heap.size)
    (h : PostS B0 c T s g S' w3 wc ls v w' S2) : PostS B0 c T s g Sent w0 w ls v w' S2 := by
  obtain ⟨h1, h2, pad', h3, h4⟩ := h
  refine ⟨fun b hb => ⟨(h1 b hb).1, ?_⟩, by omega, pad', h3, h4.base' hk⟩
  rcases (h1 b hb).2 with h5 | h5
  · exact hall b h5
  · right; omega
theorem body_mono {fn : Func} {P : Program} {Post Post' : Value → World → (Nat → Prop) → Prop} (hp : ∀ v w S, Post v w S → Post' v w S) : ∀ e a w S, bodyPostS P fn Post e a w S → bodyPostS P fn Post' e a w S := by
  intro e a w S q
  cases e <;> first | exact ⟨q.1, q.2.choose, q.2.choose_spec.1, hp _ _ _ q.2.choose_spec.2⟩ | exact q
set_option maxHeartbeats 8000000 in
theorem sendFromSE_c (hOk : OkT O T) (hsz : s.size ≤ 16) (e : Nat) (he : e ≤ 100) {Nw : Nat → Nat} (hw : SWith B0 c T O s g e s.size Nw) : ∃ N, SFrom B0 c T O s g (e + 1) s.size N := by
  obtain ⟨nt, htail⟩ := tail_c hOk e s.size he (Nat.le_refl _) hsz hw
  obtain ⟨E, hE⟩ : ∃ E : Int, E = ((e + 1 : Nat) : Int) := ⟨_, rfl⟩
  have HE := Lib.hid hE
  clear hE
  obtain ⟨nd, hd⟩ := drawn_c (B0 := B0) (c := c) (g := g) (s := s) hOk
  co_applyP Exists.intro
  intro Sent w0 w ls pad hpre hfit
  have hlist : (genL (e + 1) (s.data.toList.drop s.size)).map (ls ++ ·) = [ls] ++ runX (insX ls e (s.data.toList.drop s.size)) 0 2 := by
    have : s.data.toList.drop s.size = [] := List.drop_of_length_le (Nat.le_of_eq (by rw [Array.length_toList]; rfl))
    rw [this]; simp [genL, genS, insL, runX, insX, edL, Function.comp_def]
  rw [hlist, ← HE.out]
  generalize hTL : runX (insX ls e (s.data.toList.drop s.size)) 0 2 = TL
  obtain ⟨hB0, hSt, hpl, hF⟩ := hpre
  have Tm := termsP B0 c T Sent
  have hkp := hF.kp
  replace hF := hF.rebase
  have hl16 : ls.length ≤ 16 := by omega
  co_applyP callsS_of_ws (fn := Try.f102) (by rfl) (by rfl) rfl
  co_applyP ws_seq (xs := [ls]) (xs' := TL)
  co_applyP ws_seq (xs := []) (xs' := [ls])
  co_applyP ws_of_wpC
  co_reg Tm
  co_op HB.rely hF (co_quiet Tm)
  co_op HB.rely hF (co_quiet Tm)
  co_opw HB.rely hF (skip) (co_still Tm)
  co_opw HB.rely hF (skip) (co_still Tm)
  co_opw HB.rely hF (have hc := hF.text) (refine ⟨Grow.refl _ _, fun _ _ _ => rfl, ?_⟩; co_evs (exact hF.ev _ _))
  clear hc
  have hln := events_len_str s
  co_opw HB.rely hF (skip) (co_still Tm)
  clear hln
  co_opw HB.rely hF (skip) (co_still Tm)
  co_apply opsC_nil Tm
  simp only [ThenS]
  co_applyP ws_cond (t := true) (by rfl)
  simp only [if_true]
  co_applyP ws_region_draw
  intro w1 h1 t
  replace hF := (hF.rely h1).rely (odP w1)
  have HQ : ∀ (Q : Exit → Act → World → (Nat → Prop) → Prop), (∀ r cv w', w.heap.size ≤ r → r < w'.heap.size → r ≠ g → HB B0 c T (fun b => Sent b ∨ b = r) g w (gC s c ls pad) w' → Q .normal { tmps := tmR s g c E 4 4 cv, defers := [] } w' (fun b => Sent b ∨ b = r)) →
      OS Try.prog B0 c T O PayL (NR nd 8) 102 sfOps (Region.schedule (Try.prog.follows .mixedOrders) sfOps t) [ls] Sent Q { tmps := tmR s g c E 0 0 undef, defers := [] } { w1 with drawn := w1.drawn + 1 } := fun Q hQ => by
    unfold Region.schedule
    split
    · exact hd .any Sent w _ ls pad E Q t hB0 hSt hl16 hpl hF hQ
    · exact hd _ Sent w _ ls pad E Q (t / 2) hB0 hSt hl16 hpl hF hQ
  refine HQ _ fun r cv w' hr1 hr2 hr3 hF2 => ?_
  simp only [ThenS]
  have hk2 := hF2.kp
  have hle := hk2.1.size
  simp only [tmR]
  rw [← hTL]
  exact ItS.mono (htail _ w' w' ls pad E _ _ _ _ _ _ _ _ _ _ _ _ _ _ _ _ _ _ _ HE.out ⟨by omega, fun b h => h.elim (fun h => by have := hSt b h; omega) (fun h => by omega), hpl, hF2.rebase⟩ (by omega)) (body_mono fun v w5 S5 h => postS_trans (hkp.trans hk2) (fun b h => h.elim .inl fun h => .inr (by omega)) (by omega) h)
set_option maxHeartbeats 8000000 in
theorem sendFromS_c (hOk : OkT O T) (e pos : Nat) (he : e ≤ 100) (b : UInt8) (t : List UInt8) (ht : s.data.toList.drop pos = b :: t) (hsz : s.size ≤ 16) {Na Nw : Nat → Nat} (ha : SAt B0 c T O s g (e + 1) pos b t Na) (hw : SWith B0 c T O s g e pos Nw) : ∃ N, SFrom B0 c T O s g (e + 1) pos N := by
  obtain ⟨nt, htail⟩ := tail_c hOk e pos he (by obtain ⟨h, _⟩ := string_at ht; omega) hsz hw
  obtain ⟨E, hE⟩ : ∃ E : Int, E = ((e + 1 : Nat) : Int) := ⟨_, rfl⟩
  have HE := Lib.hid hE
  clear hE
  obtain ⟨hlt, _, _⟩ := string_at ht
  have hne : ((pos : Int) == (s.size : Int)) = false := by simp; omega
  co_applyP Exists.intro
  intro Sent w0 w ls pad hpre hfit
  have hlist : (genL (e + 1) (s.data.toList.drop pos)).map (ls ++ ·) = (atL (e + 1) b t).map (ls ++ ·) ++ runX (insX ls e (s.data.toList.drop pos)) 0 2 := by
    rw [ht]; unfold atL; simp [genL, genS, insL, runX, insX, edL, Function.comp_def]
  rw [hlist, ← HE.out]
  generalize hTL : runX (insX ls e (s.data.toList.drop pos)) 0 2 = TL
  generalize hAL : (atL (e + 1) b t).map (ls ++ ·) = AL
  obtain ⟨hB0, hSt, hpl, hF⟩ := hpre
  have Tm := termsP B0 c T Sent
  have hkp := hF.kp
  replace hF := hF.rebase
  co_applyP callsS_of_ws (fn := Try.f102) (by rfl) (by rfl) rfl
  co_applyP ws_seq (xs := AL) (xs' := TL)
  co_applyP ws_seq (xs := []) (xs' := AL)
  co_applyP ws_of_wpC
  co_reg Tm
  co_op HB.rely hF (co_quiet Tm)
  co_op HB.rely hF (co_quiet Tm)
  co_opw HB.rely hF (skip) (co_still Tm)
  co_opw HB.rely hF (skip) (co_still Tm)
  co_opw HB.rely hF (have hc := hF.text) (refine ⟨Grow.refl _ _, fun _ _ _ => rfl, ?_⟩; co_evs (exact hF.ev _ _))
  clear hc
  have hln := events_len_str s
  co_opw HB.rely hF (skip) (co_still Tm)
  clear hln
  co_opw HB.rely hF (skip) (co_still Tm)
  co_apply opsC_nil Tm
  simp only [ThenS]
  co_applyP ws_cond (t := false) (by rfl)
  simp only [Bool.false_eq_true, if_false]
  co_applyP ws_region
  simp only [List.size_toArray, List.length_cons, List.length_nil, Nat.reduceAdd, Nat.zero_add, List.range, List.range.loop]
  co_applyP os_cons_k rfl (by rfl)
  intro _ hR K hK
  replace hF := HB.rely hF hR
  clear hR
  go_simp
  try (unfold stored; go_simp)
  refine hK _ _ ⟨?_, ?_⟩
  · (co_quiet Tm)
  clear hK K
  try walk_nrm
  co_applyP os_cons_k rfl (by rfl)
  intro _ hR K hK
  replace hF := HB.rely hF hR
  clear hR
  go_simp
  try (unfold stored; go_simp)
  refine hK _ _ ⟨?_, ?_⟩
  · (co_quiet Tm)
  clear hK K
  try walk_nrm
  co_applyP os_cons_k rfl (by rfl)
  intro _ hR K hK
  replace hF := HB.rely hF hR
  clear hR
  go_simp
  try (unfold stored; go_simp)
  refine hK _ _ ⟨?_, ?_⟩
  · (co_quiet Tm)
  clear hK K
  try walk_nrm
  have hle := hF.kp.1.size
  co_applyP os_callSL rfl (by rfl) rfl
  · walk_nrm
    rw [HE.out, ← hAL]
    exact ha Sent w _ ls pad ⟨by omega, fun b h => by have := hSt b h; omega, hpl, hF⟩ hfit
  rintro v3 w3 S' ⟨hS', hle', pad3, hpl3, hF4⟩
  walk_nrm
  co_applyP os_nil
  simp only [ThenS]
  have hk2 := hF4.kp
  rw [← hTL]
  exact ItS.mono (htail _ w3 w3 ls pad3 E _ _ _ _ _ _ _ _ _ _ _ _ _ _ _ _ _ _ _ HE.out ⟨by omega, fun b h => (hS' b h).1, hpl3, hF4.rebase⟩ (by omega)) (body_mono fun v w5 S5 h => postS_trans (hkp.trans hk2) (fun b h => (hS' b h).2.imp id fun h => by omega) (by omega) h)
end
end Go.Proofs.Ytlkhknoaifbajaa

/- THE SENDER's WALK: sendFrom, whole. -/
namespace Go.Proofs.Ytlkhknoaifbajaa
open Go.Conc Go.RowKit M
set_option linter.unusedVariables false
set_option maxRecDepth 100000

section
variable {B0 c : Nat} {T : Cls} {O : Nat → Prop} {s : ByteArray} {g : Nat}
/-- sendFrom sends all candidates that begin with the links made so far, in the model's order. -/
theorem sendFrom_all (hOk : OkT O T) (hsz : s.size ≤ 16) : ∀ e, e ≤ 100 → ∀ k pos, pos + k = s.size → ∃ N, SFrom B0 c T O s g e pos N := by
  intro e
  induction e with
  | zero => exact fun _ => sendFrom0_all hOk hsz
  | succ e ihe =>
    intro he k
    have ih := ihe (by omega)
    induction k with
    | zero =>
      intro pos h
      obtain rfl : pos = s.size := by omega
      obtain ⟨Nf, hf⟩ := ih 0 s.size (by omega)
      obtain ⟨Nw, hw⟩ := sendWith_c e s.size hf
      exact sendFromSE_c hOk hsz e (by omega) hw
    | succ k ihk =>
      intro pos h
      have hl : pos < s.data.toList.length := by rw [Array.length_toList]; show pos < s.size; omega
      obtain ⟨b, t, ht⟩ : ∃ b t, s.data.toList.drop pos = b :: t := ⟨_, _, List.drop_eq_getElem_cons hl⟩
      obtain ⟨N1, h1⟩ := ihk (pos + 1) (by omega)
      obtain ⟨N2, h2⟩ := ih k (pos + 1) (by omega)
      obtain ⟨N3, h3⟩ := ih (k + 1) pos (by omega)
      obtain ⟨W1, w1⟩ := sendWith_c (e + 1) (pos + 1) h1
      obtain ⟨W2, w2⟩ := sendWith_c e (pos + 1) h2
      obtain ⟨W3, w3⟩ := sendWith_c e pos h3
      obtain ⟨Na, ha⟩ := sendAtS_c e pos (by omega) b t ht hsz w1 w2
      exact sendFromS_c hOk e pos (by omega) b t ht hsz ha w3
end
end Go.Proofs.Ytlkhknoaifbajaa

/- THE SENDER's WALK: the goroutine that is started: it makes the generator, sends all candidates, closes the channel and leaves. -/
namespace Go.Proofs.Ytlkhknoaifbajaa
set_option maxRecDepth 100000
open Go.Conc Go.RowKit M
set_option linter.unusedVariables false
set_option linter.unusedSimpArgs false
set_option maxRecDepth 100000

/-- The child's bottom frame, once its one call has been taken off it. -/
noncomputable def bot : Frame := { (default : Frame) with fn := Try.prog.funcs.size, defers := [], mode := .panicking [goexitEntry] }
def b101 : Frame := { (default : Frame) with fn := 101, kind := .deferred }
noncomputable def body101 : Code := Try.f101.body.getD .skip
/-- The call that the go statement holds. -/
def call101 (p q r : Nat) : Deferred := { target := .fn (.func 101) #[.pointer (some ⟨p, 0, none⟩), .pointer (some ⟨q, 0, none⟩), .pointer (some ⟨r, 0, none⟩)], args := #[] }
theorem born_step (p q r : Nat) (w : World) : stepG Try.prog false (born Try.prog (call101 p q r)) w =
    .go (G (b101.at ⟨#[.pointer (some ⟨p, 0, none⟩), .pointer (some ⟨q, 0, none⟩), .pointer (some ⟨r, 0, none⟩), undef, undef, undef, undef, undef, undef, undef], []⟩ [.code body101]) [bot]) w #[] := by
  simp [born, call101, stepG, unwind, callDeferred, invoke, callFunc, Try.func101, Try.f101, seen, GStep.after, G, Frame.enter, Frame.at, b101, bot, body101]
/-- BEHIND THE CLOSE IT ONLY LEAVES, AND SAYS NOTHING. -/
theorem quits (T : Array Value) (ops : Array Oper) : QuitsIn Try.prog 4 (G (b101.at ⟨T, []⟩ [.inRegion ops []]) [bot]) := by
  refine .inr ⟨rfl, _, fun w => stepG_region_end, ?_⟩
  refine .inr ⟨rfl, _, fun w => stepG_end, ?_⟩
  refine .inr ⟨rfl, G bot [], fun w => ?_, ?_⟩
  · simp [G, stepG, unwind, doReturn, results, Frame.at, b101, bot, Try.func101, Try.f101, seen, GStep.after, goexitEntry]
  refine .inr ⟨rfl, { G bot [] with status := .finished }, fun w => ?_, rfl⟩
  simp [G, stepG, unwind, bot, goexitEntry, Frame.catches]
  rfl
section
variable {P : Program}
/-- A struct is stored whole. -/
theorem run_storeRow (w : World) (g : Nat) (t ty : TypeId) (cur cs : Array Value) (hg : w.heap[g]? = some (.cells cur ty (0, 0))) (hs : (P.info? t).map (·.size) = some cs.size) (hl : cs.size = cur.size) (h1 : ∀ v ∈ cs.toList, v.oneCell' = true) :
    (Instr.storeAt t (.pointer (some ⟨g, 0, none⟩)) (.agg cs)).run P w = .ok () (w.setRow g cs) ∧ ∀ ev ∈ (Instr.storeAt t (.pointer (some ⟨g, 0, none⟩)) (.agg cs)).events P w #[], ∃ ad, ev.loc = .cell ad ∧ ad.block = g := by
  have hst := run_storeCells_at P g 0 ty cs.toList 0 cur w hg (by simp; omega) h1
  have hev := fun es => events_storeCells_at (P := P) g 0 ty cs.toList 0 cur w es hg (by simp; omega) h1
  have e : (cur.toList.take (0 + 0) ++ cs.toList ++ cur.toList.drop (0 + 0 + cs.toList.length)).toArray = cs := by
    have h2 : cur.toList.drop (0 + 0 + cs.toList.length) = [] := by rw [List.drop_eq_nil_iff]; simp; omega
    rw [h2]
    simp
  rw [e] at hst
  cases hq : P.info? t with
  | none => simp [hq] at hs
  | some i =>
    have hi : i.size = cs.size := by simpa [hq] using hs
    refine ⟨by simp [Instr.storeAt, Instr.sureAddr, storeVar, sizeOf, typeInfo, hq, hi, Value.cells, hst], fun ev h => ?_⟩
    simp [Instr.storeAt, Instr.sureAddr, storeVar, sizeOf, typeInfo, hq, hi, Value.cells, hst, Sem.events_bind] at h
    rcases hev _ ev h with h | h
    · simp at h
    · exact h
theorem uponK_store {o : Oper} {a : Act} {K : Act → World → Prop} {w w' : World} (t : TypeId) (p v : Operand) (ho : o.op = .store t p v) (hr : (Instr.storeAt t (a.eval p) (a.eval v)).run P w = .ok () w') (h : K (a.put o.dst undef) w') : uponK o a K ((execOp a.eval o).run P w) := by
  unfold execOp
  simp only [ho, Sem.run_bind, Sem.run_pure, Result.andThen_ok, hr]
  exact h
theorem events_store_op {o : Oper} {a : Act} {w w' : World} (t : TypeId) (p v : Operand) (ho : o.op = .store t p v) (hr : (Instr.storeAt t (a.eval p) (a.eval v)).run P w = .ok () w') : (execOp a.eval o).events P w #[] = (Instr.storeAt t (a.eval p) (a.eval v)).events P w #[] := by
  unfold execOp
  simp only [ho, Sem.events_bind, Sem.events_pure, hr, Result.evThen_ok]
end
section
variable {P : Program}
theorem close_step {main : Bool} {c : Nat} {ops : Array Oper} {i : Nat} {rest : List Nat} {o : Oper} {b : Frame} {a : Act} {k : List Item} {cs : List Frame} {w : World} {cap s r : Nat} {buf : Array Value} (ho : ops[i]? = some o) (hw : Region.wanted o (yielded ops a.tmps) = true) (hk : b.kind ≠ .early)
    (hr : (execOp a.eval o).run P w = .ok (.value (.tuple #[])) (w.setChan c cap buf true s r false))
    (he : (execOp a.eval o).events P w #[] = #[⟨.obj c, false, true⟩, ⟨.obj c, true, true⟩]) (hl : (P.funcs[b.fn]?).any (·.norace) = false) :
    stepG P main (G (b.at a (.inRegion ops (i :: rest) :: k)) cs) w = .go (G (b.at (a.put o.dst (.tuple #[])) (.inRegion ops rest :: k)) cs) (w.setChan c cap buf true s r false) (closeEvents c) := by
  rw [stepG_value (v := .tuple #[]) ho hw hk hr]
  unfold listed
  rw [he, seen_eq hl (by simp)]
  rfl
end
theorem atCloseP_of {P : Program} {c n : Nat} {ops : Array Oper} {i : Nat} {rest : List Nat} {o : Oper} {b : Frame} {a : Act} {k : List Item} {cs : List Frame} {w : World} (ho : ops[i]? = some o) (hw : Region.wanted o (yielded ops a.tmps) = true) (hk : b.kind ≠ .early)
    (hr : ∀ d cap buf s r, w.heap[c]? = some (.chan cap buf false s r false) → (execOp a.eval o).run P (w.at d) = .ok (.value (.tuple #[])) ((w.at d).setChan c cap buf true s r false))
    (he : ∀ d cap buf s r, w.heap[c]? = some (.chan cap buf false s r false) → (execOp a.eval o).events P (w.at d) #[] = #[⟨.obj c, false, true⟩, ⟨.obj c, true, true⟩]) (hl : (P.funcs[b.fn]?).any (·.norace) = false)
    (hmw : mayWake P (G (b.at a (.inRegion ops (i :: rest) :: k)) cs) = true) (hq : QuitsIn P n (G (b.at (a.put o.dst (.tuple #[])) (.inRegion ops rest :: k)) cs)) : AtCloseP P c (G (b.at a (.inRegion ops (i :: rest) :: k)) cs) w :=
  ⟨rfl, hmw, _, n, fun d cap buf s r hc => close_step ho hw hk (hr d cap buf s r hc) (he d cap buf s r hc) hl, hq⟩
theorem loud101 : (Try.prog.funcs[101]?).any (·.norace) = false := by kernel_rfl
theorem infoGen : (Try.prog.info? 105).map (·.size) = some 35 := by kernel_rfl
def padZ : List Value := List.replicate 32 (.int .u8 0)
section
variable (c p q r : Nat) (s : ByteArray) (e : Int)
/-- What the closure captured. -/
structure Cap (w : World) : Prop where
  cs : w.cell? ⟨p, 0, none⟩ = some (.string s)
  cc : w.cell? ⟨q, 0, none⟩ = some (.chan (some c))
  ce : w.cell? ⟨r, 0, none⟩ = some (.int .i64 e)
end
section
variable {B0 c p q r : Nat} {T : Cls} {O : Nat → Prop} {Sent : Nat → Prop} {s : ByteArray} {e : Int} {w w' : World}
theorem cell_eq {b j : Nat} (h : w'.heap[b]? = w.heap[b]?) : w'.cell? ⟨b, j, none⟩ = w.cell? ⟨b, j, none⟩ := by
  unfold World.cell?; simp only [h]
theorem Cap.keep (h : Cap c p q r s e w) (hp : ∀ b, b = p ∨ b = q ∨ b = r → w'.heap[b]? = w.heap[b]?) : Cap c p q r s e w' :=
  ⟨(cell_eq (hp p (.inl rfl))).trans h.cs, (cell_eq (hp q (.inr (.inl rfl)))).trans h.cc, (cell_eq (hp r (.inr (.inr rfl)))).trans h.ce⟩
/-- The captured boxes are older than the go statement, and none is the channel. -/
structure CapOk (B0 c p q r : Nat) : Prop where
  old : ∀ b, b = p ∨ b = q ∨ b = r → b < B0 ∧ b ≠ c
theorem Cap.lt (h : Cap c p q r s e w) : ∀ b, b = p ∨ b = q ∨ b = r → b < w.heap.size := by
  rintro b (rfl | rfl | rfl)
  · exact block_lt_of_cell h.cs
  · exact block_lt_of_cell h.cc
  · exact block_lt_of_cell h.ce
theorem Cap.rely (ok : CapOk B0 c p q r) (h : Cap c p q r s e w) (x : RelyP B0 c T w w') : Cap c p q r s e w' :=
  h.keep fun b hb => x.2 b (h.lt b hb) (ok.old b hb).2 (.inl (ok.old b hb).1)
theorem Cap.kp {g : Nat} (ok : CapOk B0 c p q r) (h : Cap c p q r s e w) (hg : B0 ≤ g) (x : Kp B0 c T g w w') : Cap c p q r s e w' :=
  h.keep fun b hb => x.2 b (h.lt b hb) (ok.old b hb).2 (by have := (ok.old b hb).1; omega) (.inl (ok.old b hb).1)
set_option maxHeartbeats 4000000 in
theorem child_sends (hOk : OkT O T) (ok : CapOk B0 c p q r) (hcB : c < B0) (hsz : s.size + 18 ≤ 100) (n : Nat) (he : n ≤ 100) (hfit : s.size + n ≤ 16) (w : World) (hB : B0 ≤ w.heap.size) (hC : Cap c p q r s (n : Int) w) :
    Sends Try.prog B0 c T O PayL (genL n s.data.toList) (fun _ => False) (born Try.prog (call101 p q r)) w := by
  refine (sends_iff _ _ _ _ _ _ _ _ _ _).2 ?_
  refine GoI.stepG rfl fun w₁ h₁ => ?_
  rw [born_step]
  refine ⟨(termsP B0 c T _).idle _, ?_⟩
  replace hC := hC.rely ok h₁
  have hB1 : B0 ≤ w₁.heap.size := Nat.le_trans hB h₁.1.size
  clear hB h₁
  change GoG Try.prog (sideP Try.prog B0 c T O PayL) (genL n s.data.toList) (fun _ => False) _ _
  simp only [body101, Try.f101, Option.getD_some]
  refine goG_seq sideP_ok ?_
  have Tm := termsP B0 c T (fun _ => False)
  refine goG_piece (xs := []) (fn := 101) rfl (by simp [b101]) (Q := fun e a' w' γ' => e = .normal ∧ γ' = (fun _ => False) ∧ ∃ g G6, a' = { tmps := #[.pointer (some ⟨p, 0, none⟩), .pointer (some ⟨q, 0, none⟩), .pointer (some ⟨r, 0, none⟩), .pointer (some ⟨g, 0, none⟩), .string s, .chan (some c), G6, undef, undef, undef], defers := [] } ∧ Cap c p q r s (n : Int) w' ∧ ∃ pad, pad.length = 32 ∧ HB B0 c T (fun _ => False) g w' (gC s c [] pad) w') ?r0 ?cont
  case r0 =>
    refine g_region sideP_ok ?_
    simp only [List.size_toArray, List.length_cons, List.length_nil, Nat.reduceAdd, Nat.zero_add, List.range, List.range.loop]
    refine g_cons_k rfl (by rfl) ?_
    intro wO hR K hK
    replace hC := Cap.rely ok hC hR
    have hB2 := Nat.le_trans hB1 hR.1.size
    clear hR
    have hc := hC.cs
    go_simp
    try (unfold stored; go_simp)
    refine hK _ _ ⟨?_, ?_⟩
    · refine ⟨Grow.refl _ _, fun _ _ _ => rfl, ?_⟩
      co_evs (exact evP_old (ok.old p (.inl rfl)).1 (hC.lt p (.inl rfl)))
    clear hK K
    try walk_nrm
    clear hc
    refine g_cons_k rfl (by rfl) ?_
    intro wO hR K hK
    replace hC := Cap.rely ok hC hR
    replace hB2 := Nat.le_trans hB2 hR.1.size
    clear hR
    have hc := hC.cc
    go_simp
    try (unfold stored; go_simp)
    refine hK _ _ ⟨?_, ?_⟩
    · refine ⟨Grow.refl _ _, fun _ _ _ => rfl, ?_⟩
      co_evs (exact evP_old (ok.old q (.inr (.inl rfl))).1 (hC.lt q (.inr (.inl rfl))))
    clear hK K
    try walk_nrm
    clear hc
    refine g_cons_k rfl (by rfl) ?_
    intro wO hR K hK
    replace hC := Cap.rely ok hC hR
    have hB3 := Nat.le_trans hB2 hR.1.size
    clear hR
    go_simp
    try (unfold stored; go_simp)
    refine hK _ _ ⟨?_, ?_⟩
    · co_still Tm
    clear hK K
    try walk_nrm
    refine g_cons_k rfl (by rfl) ?_
    intro wO hR K hK
    replace hC := Cap.rely ok hC hR
    have hB4 : B0 ≤ wO.heap.size := Nat.le_trans hB3 hR.1.size
    clear hR
    go_simp
    refine hK _ _ ⟨?_, ?_⟩
    · rw [listed_nil (by simp [go_sem])]
      exact dp_alloc _ fun cs t fz h => by obtain ⟨rfl, rfl, rfl⟩ := Obj.cells.inj h; exact hOk.gen _ _
    clear hK K
    try walk_nrm
    generalize hW : wO.alloc _ = W0
    obtain ⟨Z, hZ, hblk⟩ : ∃ Z : Array Value, Z.size = 35 ∧ W0.heap[wO.heap.size]? = some (.cells Z 105 (0, 0)) := by
      rw [← hW]
      refine ⟨_, ?_, heap_alloc_new wO _⟩
      rfl
    have hgW : B0 ≤ W0.heap.size := by rw [← hW]; simp; omega
    replace hC : Cap c p q r s (n : Int) W0 := hC.keep fun b hb => by rw [← hW]; exact heap_alloc_old wO _ (hC.lt b hb)
    have hF : HB B0 c T (fun _ => False) wO.heap.size W0 Z.toList W0 := ⟨by rw [Array.toArray_toList]; exact hblk, hB4, by omega, fun h => h, fun cs => hOk.gen cs _, hcB, Kp.refl _ _ _ _ _⟩
    have hgB : B0 ≤ wO.heap.size := hB4
    clear hW hblk hB4 hB3 hB2 hB1
    generalize wO.heap.size = g at *
    refine g_cons_k rfl (by rfl) ?_
    intro wS hR K hK
    replace hC := Cap.rely ok hC hR
    replace hF := hF.rely hR
    clear hR
    have hcur : wS.heap[g]? = some (.cells Z 105 (0, 0)) := by have := hF.blk; rwa [Array.toArray_toList] at this
    have hrun := run_storeRow (P := Try.prog) wS g 105 105 Z (gC s c [] padZ).toArray hcur infoGen (by rw [hZ]; rfl) (by intro v hv; simp [gC, padZ] at hv; rcases hv with rfl | rfl | rfl | rfl <;> rfl)
    refine uponK_store 105 (.tmp 3) (.tmp 6) rfl hrun.1 ?_
    have hset := setRow_heap wS g _ (gC s c [] padZ).toArray _ _ hcur
    have hoth : ∀ k, k ≠ g → (wS.setRow g (gC s c [] padZ).toArray).heap[k]? = wS.heap[k]? := fun k hk => setRow_other wS g k _ hk
    refine hK _ _ ⟨?_, g_nil sideP_ok ⟨rfl, rfl, g, _, rfl, hC.keep fun b hb => hoth b (by have := (ok.old b hb).1; omega), padZ, rfl, ⟨hset, hgB, by omega, fun h => h, fun cs => hOk.gen cs _, hcB, Kp.refl _ _ _ _ _⟩⟩⟩
    refine dp_write (b := g) (setRow_size _ _ _) hset hoth rfl rfl rfl hcur hgB (hOk.gen _ _) (hOk.gen _ _) (fun h => h) fun e he => ?_
    have hm := mem_listed he
    rw [events_store_op 105 (.tmp 3) (.tmp 6) rfl hrun.1] at hm
    obtain ⟨ad, h1, h2⟩ := hrun.2 e hm
    exact ⟨ad, h1, .inl h2⟩

  case cont =>
    rintro e a' w' γ' ⟨rfl, rfl, g, G6, rfl, hC, pad, hpl, hF⟩
    have hx : (genL n (s.data.toList.drop 0)).map ([] ++ ·) = genL n s.data.toList := by simp
    obtain ⟨N, hN⟩ := sendFrom_all (B0 := B0) (c := c) (T := T) (O := O) (s := s) (g := g) hOk (by omega) n he s.size 0 (by omega)
    show GoG Try.prog (sideP Try.prog B0 c T O PayL) (genL n s.data.toList) (fun _ => False) _ _
    have hlow := hF.low
    have hBw : B0 ≤ w'.heap.size := Nat.le_trans hF.low (Nat.le_of_lt (heap_low hF.blk))
    refine goG_seq sideP_ok ?_
    have e1 : genL n s.data.toList = genL n s.data.toList ++ [] := (List.append_nil _).symm
    rw [e1]
    refine goG_piece (xs := genL n s.data.toList) (fn := 101) rfl (by simp [b101]) (Q := fun e a' w' γ' => e = .normal ∧ ∃ v8, a' = { tmps := #[.pointer (some ⟨p, 0, none⟩), .pointer (some ⟨q, 0, none⟩), .pointer (some ⟨r, 0, none⟩), .pointer (some ⟨g, 0, none⟩), .string s, .chan (some c), G6, .int .i64 (n : Int), v8, undef], defers := [] } ∧ Cap c p q r s (n : Int) w') ?r1 ?cont1
    case r1 =>
      refine g_region sideP_ok ?_
      simp only [List.size_toArray, List.length_cons, List.length_nil, Nat.reduceAdd, Nat.zero_add, List.range, List.range.loop]
      refine g_cons_k rfl (by rfl) ?_
      intro wO hR K hK
      have hBO : B0 ≤ wO.heap.size := Nat.le_trans hBw hR.1.size
      replace hC := Cap.rely ok hC hR
      replace hF := (hF.rely hR).rebase
      clear hR
      have hc := hC.ce
      go_simp
      refine hK _ _ ⟨?_, ?_⟩
      · refine ⟨Grow.refl _ _, fun _ _ _ => rfl, ?_⟩
        co_evs (exact evP_old (ok.old r (.inr (.inr rfl))).1 (hC.lt r (.inr (.inr rfl))))
      clear hK K hc
      try walk_nrm
      rw [e1]
      refine g_call (xs := genL n s.data.toList) (xs' := []) sideP_ok rfl (by rfl) rfl (Post := PostS B0 c T s g (fun _ => False) wO wO []) ?_ ?_
      · walk_nrm
        have := hN (fun _ => False) wO wO [] pad ⟨hBO, fun b h => h.elim, by rw [hpl]; rfl, hF⟩ (by simp; omega)
        rw [hx] at this
        exact this
      · rintro v w2 S' ⟨_, _, pad', _, hF2⟩
        walk_nrm
        exact g_nil sideP_ok ⟨rfl, v, rfl, hC.kp ok hlow hF2.kp⟩
    case cont1 =>
      rintro e a' w' γ' ⟨rfl, v8, rfl, hC⟩
      show GoG Try.prog (sideP Try.prog B0 c T O PayL) [] γ' _ _
      refine goG_region sideP_ok ?_
      simp only [List.size_toArray, List.length_cons, List.length_nil, Nat.reduceAdd, Nat.zero_add, List.range, List.range.loop]
      refine goG_op rfl (by rfl) (by simp [b101]) ?_
      intro wO hR K hK
      replace hC := Cap.rely ok hC hR
      clear hR
      have hc := hC.cc
      go_simp
      refine hK _ _ ⟨?_, ?_⟩
      · refine ⟨Grow.refl _ _, fun _ _ _ => rfl, ?_⟩
        co_evs (exact evP_old (ok.old q (.inr (.inl rfl))).1 (hC.lt q (.inr (.inl rfl))))
      clear hK K hc
      try walk_nrm
      refine GoI.stop fun w₂ h₂ => ?_
      refine atCloseP_of (n := 4) rfl (by rfl) (by simp [b101]) (fun d cap buf s' r' hch => ?_) (fun d cap buf s' r' hch => ?_) loud101 (by simp [mayWake, G, Frame.at, b101]) (quits _ _)
      · have hr := run_close_open (P := Try.prog) (w := w₂.at d) #[102] 0 hch
        simp [go_sem, hr, World.setChan]
      · have hes := events_close_open (P := Try.prog) (w := w₂.at d) (es := #[]) #[102] 0 hch
        simp [go_sem, hes]
end
end Go.Proofs.Ytlkhknoaifbajaa
