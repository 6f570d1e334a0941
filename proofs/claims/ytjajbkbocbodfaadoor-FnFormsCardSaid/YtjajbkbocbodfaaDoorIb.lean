/- The program's builder of syllables: what its methods do to the block that it lies in. -/
import Derived.Test.YtjajbkbocbodfaaDoorSy
import Derived.Test.YtjajbkbocbodfaaDoorAppY
import Derived.Deep.RegionLaw
namespace Go.Proofs.YtjajbkbocbodfaaDoor
open Go.RowKit M

theorem step_append_syl_drew {ops : Array Oper} {o : Oper} {a : Act} {K : Act → World → Prop} {Q : Exit → Act → World → Prop} {E : Prop} (w : World) (hgd : o.guard = none) (s y : Operand)
    (ho : o.op = .call { callee := .builtin .append, args := #[s, y], argTypes := #[34, 34] })
    (base : Nat) (v : Value) (n : Nat) (l : List Syl) (hown : w.ownsRow base 38 3 v n (cellsY l)) (x : Syl) (hn : n ≤ 1000000000) (hbase : base ≤ w.heap.size)
    (hs : a.eval s = v) (hx : a.eval y = .slice (some ⟨w.heap.size, 0, none⟩) 1 1)
    (h : ∀ v' w', w'.ownsRow base 38 3 v' (n + 1) (cellsY (l ++ [x])) → Below base w w' → (∀ k, k < w.heap.size → v.ownBlock ≠ some k → w'.heap[k]? = w.heap[k]? ∧ v'.ownBlock ≠ some k) → K (a.put o.dst v') w') :
    if Region.wanted o (yielded ops a.tmps) = true then Oper.wp Tryd.prog o a ((w.alloc (.cells #[.string (bs x.o), .string (bs x.n), .string (bs x.c)] 38)).drew) K Q else E := by
  have hw : Region.wanted o (yielded ops a.tmps) = true := by simp [Region.wanted, hgd]
  rw [if_pos hw]
  obtain ⟨i0, hi, hz0, hz1, hz2⟩ := info_parts Tryd.infoZ
  obtain ⟨v', w', hr, h2, h3, h4, h5⟩ := run_append_own_at (P := Tryd.prog) ((w.drew).alloc (.cells #[.string (bs x.o), .string (bs x.n), .string (bs x.c)] 38)) base 34 o.type 38 i0 (.agg #[.string ⟨#[]⟩, .string ⟨#[]⟩, .string ⟨#[]⟩]) 3 48 Tryd.underlying34 hi hz0 hz1 hz2 rfl (by decide) v n (cellsY l) (hown.drew.alloc _) ⟨w.heap.size, 0, none⟩ 1 1 [.string (bs x.o), .string (bs x.n), .string (bs x.c)] rfl (cell_three_new _ _ _ _ _)
    (fun u hu => by simp at hu; rcases hu with rfl | rfl | rfl <;> rfl) (by unfold maxLen; omega) (by omega) (by simp; omega)
  unfold Oper.wp execOp
  have e : (w.alloc (.cells #[.string (bs x.o), .string (bs x.n), .string (bs x.c)] 38)).drew = (w.drew).alloc (.cells #[.string (bs x.o), .string (bs x.n), .string (bs x.c)] 38) := rfl
  rw [e]
  simp only [ho, resolve, invoke, builtin, Sem.run_bind, Sem.run_pure, Result.andThen_ok, List.map_toArray, List.map_cons, List.map_nil, hs, hx, hr]
  refine h v' w' (by rw [cellsY_append]; exact h2) ?_ ?_
  · have := ((Below.refl base w.drew).alloc hbase (.cells #[.string (bs x.o), .string (bs x.n), .string (bs x.c)] 38)).grown h3 (by simp; omega) (fun q hq => (hown.lt q hq).1)
    exact ⟨this.os, this.tape, this.output, this.size, this.block⟩
  · intro k hk hv
    refine ⟨(h3.block k (by simp; omega) (fun e => hv e.symm)).trans (Below.heap_alloc w.drew _ k hk), ?_⟩
    rcases h5 with h5 | h5
    · rw [h5]; exact hv
    · rw [h5]; simp; omega
/-- The builder in its block. -/
def InB (w : World) (B : Nat) (x : Syl) (v : Value) : Prop := w.heap[B]? = some (.cells #[.string (bs x.o), .string (bs x.n), .string (bs x.c), v] 62 (0, 0))
theorem InB.cells {w : World} {B : Nat} {x : Syl} {v : Value} (h : InB w B x v) : w.cell? ⟨B, 0, none⟩ = some (.string (bs x.o)) ∧ w.cell? ⟨B, 1, none⟩ = some (.string (bs x.n)) ∧ w.cell? ⟨B, 2, none⟩ = some (.string (bs x.c)) ∧ w.cell? ⟨B, 3, none⟩ = some v := by
  unfold InB at h
  simp [World.cell?, h]
theorem InB.free {w : World} {B : Nat} {x : Syl} {v : Value} (h : InB w B x v) (j : Nat) : w.frozen? ⟨B, j, none⟩ = false := frozen_of_row w B j _ _ h
theorem InB.set0 {w : World} {B : Nat} {x : Syl} {v : Value} (h : InB w B x v) (p : List UInt8) : InB (w.setCell ⟨B, 0, none⟩ (.string (bs p))) B ⟨p, x.n, x.c⟩ v := heap_setCell_same w B 0 _ _ _ h
theorem InB.set1 {w : World} {B : Nat} {x : Syl} {v : Value} (h : InB w B x v) (p : List UInt8) : InB (w.setCell ⟨B, 1, none⟩ (.string (bs p))) B ⟨x.o, p, x.c⟩ v := heap_setCell_same w B 1 _ _ _ h
theorem InB.set2 {w : World} {B : Nat} {x : Syl} {v : Value} (h : InB w B x v) (p : List UInt8) : InB (w.setCell ⟨B, 2, none⟩ (.string (bs p))) B ⟨x.o, x.n, p⟩ v := heap_setCell_same w B 2 _ _ _ h
theorem InB.set3 {w : World} {B : Nat} {x : Syl} {v : Value} (h : InB w B x v) (u : Value) : InB (w.setCell ⟨B, 3, none⟩ u) B x u := heap_setCell_same w B 3 _ _ _ h
def BSt (base B : Nat) (w : World) (l : List Syl) (x : Syl) : Prop := ∃ v, InB w B x v ∧ w.ownsRow base 38 3 v l.length (cellsY l) ∧ v.ownBlock ≠ some B
theorem own_setB {w : World} {base : Nat} {v : Value} {n B j : Nat} {xs : List Value} (h : w.ownsRow base 38 3 v n xs) (hv : v.ownBlock ≠ some B) (u : Value) : (w.setCell ⟨B, j, none⟩ u).ownsRow base 38 3 v n xs :=
  ownsRow_setCell_other h hv u
theorem BSt.set0 {base B : Nat} {w : World} {l : List Syl} {x : Syl} (h : BSt base B w l x) (p : List UInt8) : BSt base B (w.setCell ⟨B, 0, none⟩ (.string (bs p))) l ⟨p, x.n, x.c⟩ := by
  obtain ⟨v, h1, h2, h3⟩ := h; exact ⟨v, h1.set0 p, own_setB h2 h3 _, h3⟩
theorem BSt.set1 {base B : Nat} {w : World} {l : List Syl} {x : Syl} (h : BSt base B w l x) (p : List UInt8) : BSt base B (w.setCell ⟨B, 1, none⟩ (.string (bs p))) l ⟨x.o, p, x.c⟩ := by
  obtain ⟨v, h1, h2, h3⟩ := h; exact ⟨v, h1.set1 p, own_setB h2 h3 _, h3⟩
theorem BSt.set2 {base B : Nat} {w : World} {l : List Syl} {x : Syl} (h : BSt base B w l x) (p : List UInt8) : BSt base B (w.setCell ⟨B, 2, none⟩ (.string (bs p))) l ⟨x.o, x.n, p⟩ := by
  obtain ⟨v, h1, h2, h3⟩ := h; exact ⟨v, h1.set2 p, own_setB h2 h3 _, h3⟩
theorem bs_dropE (c : List UInt8) (k : Nat) : (bs c).extract k c.length = bs (c.drop k) := by
  apply ByteArray.ext
  apply Array.toList_inj.1
  simp [bs, ByteArray.data_extract]
  rw [List.take_of_length_le (by simp)]
theorem results_none {fn : Func} (h : fn.results = #[]) (tmps : Array Value) (P : Program) (w : World) : (results fn tmps).run P w = .ok (.tuple #[]) w := by
  simp [results, h]
theorem bs_takeE (c : List UInt8) (k : Nat) : (bs c).extract 0 k = bs (c.take k) := by
  apply ByteArray.ext
  apply Array.toList_inj.1
  simp [bs, ByteArray.data_extract]
theorem implCons_any (base B : Nat) (l : List Syl) (x : Syl) (b : UInt8) (w : World) (hb : base ≤ B) (ho : x.o.length ≤ 1000) (hc : x.c.length ≤ 1000) (hst : BSt base B w l x) :
    Calls Tryd.prog 56 #[.pointer (some ⟨B, 0, none⟩), .string (bs [b])] w fun e w' => e = .returned (.tuple #[]) ∧ BSt base B w' l (if x.n = [] then ⟨x.o ++ [b], x.n, x.c⟩ else ⟨x.o, x.n, x.c ++ [b]⟩) ∧ Below base w w' := by
  have HST := Lib.hid hst
  obtain ⟨v, hin, _, _⟩ := hst
  obtain ⟨c0, c1, c2, c3⟩ := hin.cells
  have f0 := hin.free 0
  have f2 := hin.free 2
  clear hin
  have addO : ∀ w : World, (Op.stringOp .add (bs x.o) (bs [b])).run Tryd.prog w = .ok (.string (bs (x.o ++ [b]))) w := fun w => by rw [run_string_add_sum _ _ _ (by rw [bs_size, bs_size, List.length_singleton]; omega), bs_add]
  have addC : ∀ w : World, (Op.stringOp .add (bs x.c) (bs [b])).run Tryd.prog w = .ok (.string (bs (x.c ++ [b]))) w := fun w => by rw [run_string_add_sum _ _ _ (by rw [bs_size, bs_size, List.length_singleton]; omega), bs_add]
  have hl1 := bs_list x.n
  by_cases hn : x.n = []
  · rw [if_pos hn]
    have e1 : bs x.n = ⟨#[]⟩ := by rw [hn]; rfl
    rw [e1] at c1
    have H0 := Lib.hid (HST.out.set0 (x.o ++ [b]))
    have HB := Lib.hid ((Below.refl base w).setCell (p := ⟨B, 0, none⟩) hb (.string (bs (x.o ++ [b]))))
    clear hl1 e1
    go_enter Tryd.func56, Tryd.ntmps56
    go_wp2
    refine bodyPost_ret (results_none rfl _ _ _) rfl ?_
    exact ⟨rfl, H0.out, HB.out⟩
  · rw [if_neg hn]
    have hne : x.n.isEmpty = false := by cases h : x.n; exact absurd h hn; rfl
    have H0 := Lib.hid (HST.out.set2 (x.c ++ [b]))
    have HB := Lib.hid ((Below.refl base w).setCell (p := ⟨B, 2, none⟩) hb (.string (bs (x.c ++ [b]))))
    go_enter Tryd.func56, Tryd.ntmps56
    go_wp2
    refine bodyPost_end (results_none rfl _ _ _) rfl ?_
    exact ⟨rfl, H0.out, HB.out⟩
theorem row_form {w : World} {base : Nat} {e : TypeId} {size : Nat} {v : Value} {n : Nat} {xs : List Value} (h : w.ownsRow base e size v n xs) : ∃ A cap, v = .slice A n cap := by
  rcases h.2 with ⟨rfl, h0⟩ | ⟨g, cap, cur, rfl, hb, _⟩
  · exact ⟨none, 0, by rw [h0]⟩
  · exact ⟨_, cap, rfl⟩
def keptN (c : List UInt8) : Nat := c.length - 1
set_option maxHeartbeats 2000000 in
theorem implStart_any (base B : Nat) (l : List Syl) (x : Syl) (w : World) (hb : base ≤ B) (hl : l.length ≤ 1000) (hc : x.c.length ≤ 1000) (hst : BSt base B w l x) :
    Calls Tryd.prog 73 #[.pointer (some ⟨B, 0, none⟩)] w fun e w' => e = .returned (.tuple #[]) ∧ BSt base B w' (l ++ [⟨x.o, x.n, x.c.take (keptN x.c)⟩]) ⟨x.c.drop (keptN x.c), [], []⟩ ∧ Below base w w' := by
  obtain ⟨v, hin, hown, hne⟩ := hst
  have hlt : B < w.heap.size := (Array.getElem?_eq_some_iff.1 hin).1
  obtain ⟨c0, c1, c2, c3⟩ := hin.cells
  have f2 := hin.free 2
  have h2 := hin.set2 (x.c.take (keptN x.c))
  obtain ⟨d0, d1, d2, d3⟩ := h2.cells
  have g0 := h2.free 0
  have g1 := h2.free 1
  have g2 := h2.free 2
  have g3 := h2.free 3
  have HO2 := Lib.hid (own_setB (j := 2) hown hne (.string (bs (x.c.take (keptN x.c)))))
  have HB2 := Lib.hid ((Below.refl base w).setCell (p := ⟨B, 2, none⟩) hb (.string (bs (x.c.take (keptN x.c)))))
  have H2 := Lib.hid h2
  have HNE := Lib.hid hne
  have HLE : Hid (w.heap.size ≤ (w.setCell ⟨B, 2, none⟩ (.string (bs (x.c.take (keptN x.c))))).heap.size) := by simp [Hid, World.setCell]
  have HBS : Hid (base ≤ (w.setCell ⟨B, 2, none⟩ (.string (bs (x.c.take (keptN x.c))))).heap.size) := Nat.le_trans (Nat.le_trans hb (Nat.le_of_lt hlt)) HLE.out
  have hsz := bs_size x.c
  have hk1 := bs_dropE x.c (keptN x.c)
  have hk2 := bs_takeE x.c (keptN x.c)
  have hkn : keptN x.c = x.c.length - 1 := rfl
  simp only at d0 d1 d2 d3
  clear hin hown hne h2
  obtain ⟨o, n, c⟩ := x
  simp only at *
  have hpos : (0 ≤ (c.length : Int) - 1 ∧ (bs c).extract (c.length - 1) c.length = bs (c.drop (keptN c)) ∧ (bs c).extract 0 (c.length - 1) = bs (c.take (keptN c))) ∨ (¬ 0 ≤ (c.length : Int) - 1 ∧ (bs c).extract 0 c.length = bs (c.drop (keptN c)) ∧ c.take (keptN c) = []) := by
    by_cases h : c.length = 0
    · right
      have hk : keptN c = 0 := by rw [hkn, h]
      rw [hk] at hk1 hk2 ⊢
      exact ⟨by omega, hk1, rfl⟩
    · left
      rw [hkn] at hk1 hk2 ⊢
      exact ⟨by omega, hk1, hk2⟩
  clear hk1 hk2 hkn
  generalize c.drop (keptN c) = D at *
  generalize c.take (keptN c) = T at *
  rcases hpos with ⟨hp, hk1, hk2⟩ | ⟨hp, hk1, rfl⟩
  · go_enter Tryd.func73, Tryd.ntmps73
    go_wp2_with fail
    go_region_law (refine step_append_syl_drew (w.setCell ⟨B, 2, none⟩ (.string (bs T))) rfl (.tmp 34) (.tmp 39) rfl base v _ l HO2.out ⟨o, n, T⟩ (by omega) HBS.out (by simp [Act.eval]) (by simp [Act.eval]) ?_; intro v' w' hown' hb' hkeep; obtain ⟨A', cap', rfl⟩ := row_form hown'; have hkk := hkeep B (Nat.lt_of_lt_of_le hlt HLE.out) HNE.out; have hbk' : InB w' B ⟨o, n, T⟩ v := hkk.1.trans H2.out; have q3 := hbk'.free 3; obtain ⟨_, _, _, e3⟩ := hbk'.cells; have hset := hbk'.set3 (.slice A' (l.length + 1) cap'); obtain ⟨r0, r1, r2, _⟩ := hset.cells; have p0 := hset.free 0; have p1 := hset.free 1; have p2 := hset.free 2; simp only at r0 r1 r2; have HSE := Lib.hid hset; have HOW := Lib.hid (own_setB (j := 3) hown' hkk.2 (.slice A' (l.length + 1) cap')); have HBB := Lib.hid ((HB2.out.trans hb').setCell (p := ⟨B, 3, none⟩) hb (.slice A' (l.length + 1) cap')); have HNB := Lib.hid hkk.2; clear hown' hb' hkeep hkk hbk' hset)
    all_goals
      go_wp2
      refine bodyPost_end (results_none rfl _ _ _) rfl ?_
      refine ⟨rfl, ⟨.slice A' (l.length + 1) cap', ((HSE.out.set0 D).set1 []).set2 [], ?_, HNB.out⟩, ((HBB.out.setCell (p := ⟨B, 0, none⟩) hb _).setCell (p := ⟨B, 1, none⟩) hb _).setCell (p := ⟨B, 2, none⟩) hb _⟩
      rw [List.length_append, List.length_singleton]
      exact own_setB (own_setB (own_setB HOW.out HNB.out _) HNB.out _) HNB.out _
  · have e0 : bs ([] : List UInt8) = ByteArray.empty := rfl
    rw [e0] at d0 d1 d2 d3 g0 g1 g2 g3
    go_enter Tryd.func73, Tryd.ntmps73
    go_wp2_with fail
    go_region_law (refine step_append_syl_drew (w.setCell ⟨B, 2, none⟩ (.string ByteArray.empty)) rfl (.tmp 34) (.tmp 39) rfl base v _ l HO2.out ⟨o, n, []⟩ (by omega) HBS.out (by simp [Act.eval]) (by simp [Act.eval]) ?_; intro v' w' hown' hb' hkeep; obtain ⟨A', cap', rfl⟩ := row_form hown'; have hkk := hkeep B (Nat.lt_of_lt_of_le hlt HLE.out) HNE.out; have hbk' : InB w' B ⟨o, n, []⟩ v := hkk.1.trans H2.out; have q3 := hbk'.free 3; obtain ⟨_, _, _, e3⟩ := hbk'.cells; have hset := hbk'.set3 (.slice A' (l.length + 1) cap'); obtain ⟨r0, r1, r2, _⟩ := hset.cells; have p0 := hset.free 0; have p1 := hset.free 1; have p2 := hset.free 2; simp only at r0 r1 r2; have HSE := Lib.hid hset; have HOW := Lib.hid (own_setB (j := 3) hown' hkk.2 (.slice A' (l.length + 1) cap')); have HBB := Lib.hid ((HB2.out.trans hb').setCell (p := ⟨B, 3, none⟩) hb (.slice A' (l.length + 1) cap')); have HNB := Lib.hid hkk.2; clear hown' hb' hkeep hkk hbk' hset)
    all_goals
      go_wp2
      refine bodyPost_end (results_none rfl _ _ _) rfl ?_
      refine ⟨rfl, ⟨.slice A' (l.length + 1) cap', ((HSE.out.set0 D).set1 []).set2 [], ?_, HNB.out⟩, ((HBB.out.setCell (p := ⟨B, 0, none⟩) hb _).setCell (p := ⟨B, 1, none⟩) hb _).setCell (p := ⟨B, 2, none⟩) hb _⟩
      rw [List.length_append, List.length_singleton]
      exact own_setB (own_setB (own_setB HOW.out HNB.out _) HNB.out _) HNB.out _
/-- One byte more, as the builder takes it. -/
def dvStep (s : ByteArray) (i : Nat) (t : List Syl × Syl) : List Syl × Syl :=
  if hasF (bAt s i) 0 = true then (if t.2.n = [] then (t.1, ⟨t.2.o, [byA s i], t.2.c⟩) else (t.1 ++ [⟨t.2.o, t.2.n, t.2.c.take (keptN t.2.c)⟩], ⟨t.2.c.drop (keptN t.2.c), [byA s i], []⟩))
  else (t.1, if t.2.n = [] then ⟨t.2.o ++ [byA s i], t.2.n, t.2.c⟩ else ⟨t.2.o, t.2.n, t.2.c ++ [byA s i]⟩)
theorem implVowelTo_any (base B : Nat) (l : List Syl) (x : Syl) (b : UInt8) (w : World) (hb : base ≤ B) (hl : l.length ≤ 1000) (hc : x.c.length ≤ 1000) (hst : BSt base B w l x) :
    Calls Tryd.prog 55 #[.pointer (some ⟨B, 0, none⟩), .string (bs [b])] w fun e w' => e = .returned (.tuple #[]) ∧
      BSt base B w' (if x.n = [] then l else l ++ [⟨x.o, x.n, x.c.take (keptN x.c)⟩]) (if x.n = [] then ⟨x.o, [b], x.c⟩ else ⟨x.c.drop (keptN x.c), [b], []⟩) ∧ Below base w w' := by
  have HST := Lib.hid hst
  have HSS : Hid (Calls Tryd.prog 73 #[.pointer (some ⟨B, 0, none⟩)] w fun e w' => e = .returned (.tuple #[]) ∧ BSt base B w' (l ++ [⟨x.o, x.n, x.c.take (keptN x.c)⟩]) ⟨x.c.drop (keptN x.c), [], []⟩ ∧ Below base w w') := implStart_any base B l x w hb hl hc hst
  obtain ⟨v, hin, _, _⟩ := hst
  obtain ⟨c0, c1, c2, c3⟩ := hin.cells
  have f1 := hin.free 1
  clear hin
  have hl1 := bs_list x.n
  by_cases hn : x.n = []
  · rw [if_pos hn, if_pos hn]
    have e1 : bs x.n = ⟨#[]⟩ := by rw [hn]; rfl
    rw [e1] at c1
    have H0 := Lib.hid (HST.out.set1 [b])
    have HB := Lib.hid ((Below.refl base w).setCell (p := ⟨B, 1, none⟩) hb (.string (bs [b])))
    clear hl1 e1
    go_enter Tryd.func55, Tryd.ntmps55
    go_wp2
    refine bodyPost_end (results_none rfl _ _ _) rfl ?_
    exact ⟨rfl, H0.out, HB.out⟩
  · rw [if_neg hn, if_neg hn]
    have hne : x.n.isEmpty = false := by cases h : x.n; exact absurd h hn; rfl
    go_enter Tryd.func55, Tryd.ntmps55
    go_wp2_with fail
    refine HSS.out.mono ?_
    rintro e w1 ⟨rfl, hst1, hb1⟩
    have H1 := Lib.hid (hst1.set1 [b])
    have HB1 := Lib.hid (hb1.setCell (p := ⟨B, 1, none⟩) hb (.string (bs [b])))
    obtain ⟨v1, hin1, _, _⟩ := hst1
    obtain ⟨k0, k1, k2, k3⟩ := hin1.cells
    have q1 := hin1.free 1
    clear hin1 hb1
    go_wp2
    refine bodyPost_end (results_none rfl _ _ _) rfl ?_
    exact ⟨rfl, H1.out, HB1.out⟩
end Go.Proofs.YtjajbkbocbodfaaDoor
