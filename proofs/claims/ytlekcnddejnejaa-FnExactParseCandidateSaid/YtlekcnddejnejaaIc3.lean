/- The program's appendTo: what it answers. -/
import Derived.Test.YtlekcnddejnejaaIc1
import Derived.Test.YtlekcnddejnejaaApp
import Derived.BigRegion
import Derived.BigQuiet
import Derived.Deep.RegionLaw
namespace Go.Proofs.Ytlekcnddejnejaa
open Go.RowKit M
set_option linter.unusedVariables false
set_option linter.unusedSimpArgs false

theorem implOr_any (a b : Int) (g : Nat) (w : World) (h : InC w g #[.int .u8 a, .int .u8 b] 5) :
    Calls Try.prog 55 #[.slice (some ⟨g, 0, none⟩) 2 2] w fun e w' => e = .returned (.int .u8 (if a = 0 then b else a)) ∧ w = w' := by
  have c0 := h.cell 0 rfl
  have c1 := h.cell 1 rfl
  clear h
  go_enter Try.func55, Try.ntmps55
  go_wp2
  go_loop [8] (fun i => ∃ j : Nat, j ≤ 2 ∧ i = .int .i64 j ∧ Hid ((1 ≤ j → a = 0) ∧ (2 ≤ j → b = 0))) (fun i => 2 - (intOf i).toNat)
  case atStart => exact ⟨0, by omega, rfl, fun h => by omega, fun h => by omega⟩
  case round =>
    obtain ⟨j, hj, rfl, hx⟩ := hrel
    rcases (show j = 0 ∨ j = 1 ∨ j = 2 by omega) with rfl | rfl | rfl
    · by_cases ha : a = 0
      · subst ha
        go_wp2
        go_round
        case rel => exact ⟨1, by omega, by go_num, by simp [Hid]⟩
        case measure => simp [intOf]
      · go_wp2
        go_ret
        exact ⟨rfl, by trivial⟩
    · have ha : a = 0 := hx.out.1 (by omega)
      subst ha
      by_cases hb : b = 0
      · subst hb
        go_wp2
        go_round
        case rel => exact ⟨2, by omega, by go_num, by simp [Hid]⟩
        case measure => simp [intOf]
      · go_wp2
        go_ret
        exact ⟨rfl, by trivial⟩
    · have ha : a = 0 := hx.out.1 (by omega)
      have hb : b = 0 := hx.out.2 (by omega)
      subst ha hb
      go_wp2
      go_ret
      exact ⟨rfl, by trivial⟩
def AppPost (base : Nat) (t : List UInt8) (w : World) (e : Ending) (w' : World) : Prop := ∃ u, e = .returned u ∧ w'.ownsRow base 5 1 u t.length (cellsB t) ∧ Below base w w' ∧ ∀ (k : Nat) (o : Obj), w.heap[k]? = some o → (∀ c fz, o ≠ .cells c 5 fz) → w'.heap[k]? = some o
theorem not5 {cs : Array Value} {t : TypeId} (ht : t ≠ 5) : ∀ c fz, Obj.cells cs t (0, 0) ≠ .cells c 5 fz := by
  intro c fz e; injection e with _ e2 _; exact ht e2
theorem keep_alloc {w w' : World} (h : ∀ (k : Nat) (o : Obj), w.heap[k]? = some o → (∀ c fz, o ≠ .cells c 5 fz) → w'.heap[k]? = some o) {cs : Array Value} : ∀ (k : Nat) (o : Obj), w.heap[k]? = some o → (∀ c fz, o ≠ .cells c 5 fz) → (w'.alloc (.cells cs 5)).heap[k]? = some o := by
  intro k o hk hne
  have h1 := h k o hk hne
  have hlt : k < w'.heap.size := lt_of_block h1
  exact (Below.heap_alloc w' _ k hlt).trans h1
theorem drewN_heap (w : World) (n : Nat) : (w.drewN n).heap = w.heap := by
  induction n generalizing w with
  | zero => rfl
  | succ n ih => exact (ih w.drew)
theorem ownsRow_drewN6 {w : World} {base n m : Nat} {v : Value} {c : List Value} (h : w.ownsRow base 5 1 v n c) : (w.drewN m).ownsRow base 5 1 v n c := by
  induction m generalizing w with
  | zero => exact h
  | succ m ih => exact ih h.drew
theorem inC_drewN {w : World} {g n : Nat} {cs : Array Value} {t : TypeId} (h : InC w g cs t) : InC (w.drewN n) g cs t := by
  unfold InC; rw [drewN_heap]; exact h
theorem Below6.drew {B : Nat} {w w' : World} (h : Below B w w') : Below B w w'.drew := h.drew
theorem Below6.drewN {B n : Nat} {w w' : World} (h : Below B w w') : Below B w (w'.drewN n) := drewN_below h
theorem wpList_append_byte_n {ops : Array Oper} {rest : List Oper} {o : Oper} {a : Act} {Q : Exit → Act → World → Prop} (w : World) (hgd : o.guard = none) (s x : Operand)
    (ho : o.op = .call { callee := .builtin .append, args := #[s, x], argTypes := #[58, 58] })
    (base : Nat) (v : Value) (n : Nat) (l : List UInt8) (hs : a.eval s = v) (hown : w.ownsRow base 5 1 v n (cellsB l)) (b : Int) (hb0 : 0 ≤ b) (hb1 : b < 256)
    (nb : Nat) (hnb : nb = w.heap.size) (hx : a.eval x = .slice (some ⟨nb, 0, none⟩) 1 1) (hn : n ≤ 70368744177664) (hbase : base ≤ w.heap.size)
    (h : ∀ v' w', w'.ownsRow base 5 1 v' (n + 1) (cellsB (l ++ [byt b])) → Below base w w' → (∀ (k : Nat) (o : Obj), w.heap[k]? = some o → (∀ c fz, o ≠ .cells c 5 fz) → w'.heap[k]? = some o) → wpList Try.prog ops Q rest (a.put o.dst v') w') :
    wpList Try.prog ops Q (o :: rest) a (w.alloc (.cells #[.int .u8 b] 5)) := by
  subst hnb
  exact wpList_append_byte_k w hgd s x ho base v n l hs hown b hb0 hb1 hx hn hbase h
theorem step_append_byte_n {ops : Array Oper} {o : Oper} {a : Act} {K : Act → World → Prop} {Q : Exit → Act → World → Prop} {E : Prop} (w : World) (hgd : o.guard = none) (s x : Operand)
    (ho : o.op = .call { callee := .builtin .append, args := #[s, x], argTypes := #[58, 58] })
    (base : Nat) (v : Value) (n : Nat) (l : List UInt8) (hown : w.ownsRow base 5 1 v n (cellsB l)) (b : Int) (hb0 : 0 ≤ b) (hb1 : b < 256)
    (nb : Nat) (hnb : nb = w.heap.size) (hn : n ≤ 70368744177664) (hbase : base ≤ w.heap.size) (hs : a.eval s = v) (hx : a.eval x = .slice (some ⟨nb, 0, none⟩) 1 1)
    (h : ∀ v' w', w'.ownsRow base 5 1 v' (n + 1) (cellsB (l ++ [byt b])) → Below base w w' → (∀ (k : Nat) (o : Obj), w.heap[k]? = some o → (∀ c fz, o ≠ .cells c 5 fz) → w'.heap[k]? = some o) → K (a.put o.dst v') w') :
    if Region.wanted o (yielded ops a.tmps) = true then Oper.wp Try.prog o a (w.alloc (.cells #[.int .u8 b] 5)) K Q else E := by
  have hw : Region.wanted o (yielded ops a.tmps) = true := by simp [Region.wanted, hgd]
  rw [if_pos hw]
  subst hnb
  obtain ⟨i0, hi, hz0, hz1, hz2⟩ := info_parts Try.info5
  refine wp_append_own (w.alloc (.cells #[.int .u8 b] 5)) s x 58 ho base 5 i0 (.int .u8 0) 1 1 Try.underlying58 hi hz0 hz1 hz2 rfl (by decide) v n (cellsB l) hs (hown.alloc _) ⟨w.heap.size, 0, none⟩ 1 1 [.int .u8 b] hx rfl (cell_one_new _ _ _)
    (fun u hu => by simp at hu; subst hu; rfl) (by unfold maxLen; omega) (by omega) (by simp; omega) ?_
  intro v' w' h1 h2 _
  refine h v' w' (by rw [cellsB_append, cellsB_one b hb0 hb1]; exact h1) ?_ ?_
  · exact ((Below.refl base w).alloc hbase _).grown h2 (by simp; omega) (fun q hq => (hown.lt q hq).1)
  · intro k ob hk hob
    have hlt : k < w.heap.size := lt_of_block hk
    have hne : some k ≠ v.ownBlock := by
      rcases hown.2 with ⟨rfl, _⟩ | ⟨g, cap, cur, rfl, _, hg, _⟩
      · simp [Value.ownBlock]
      · intro e
        have : k = g := by simpa [Value.ownBlock] using e
        subst this
        rw [hk] at hg
        exact hob _ _ (Option.some.inj hg)
    rw [h2.block k (by simp; omega) hne, Below.heap_alloc _ _ _ hlt, hk]
theorem step_append_byte_drew {ops : Array Oper} {o : Oper} {a : Act} {K : Act → World → Prop} {Q : Exit → Act → World → Prop} {E : Prop} (w : World) (hgd : o.guard = none) (s x : Operand)
    (ho : o.op = .call { callee := .builtin .append, args := #[s, x], argTypes := #[58, 58] })
    (base : Nat) (v : Value) (n : Nat) (l : List UInt8) (hown : w.ownsRow base 5 1 v n (cellsB l)) (b : Int) (hb0 : 0 ≤ b) (hb1 : b < 256)
    (nb : Nat) (hnb : nb = w.heap.size) (hn : n ≤ 70368744177664) (hbase : base ≤ w.heap.size) (hs : a.eval s = v) (hx : a.eval x = .slice (some ⟨nb, 0, none⟩) 1 1)
    (h : ∀ v' w', w'.ownsRow base 5 1 v' (n + 1) (cellsB (l ++ [byt b])) → Below base w w' → (∀ (k : Nat) (o : Obj), w.heap[k]? = some o → (∀ c fz, o ≠ .cells c 5 fz) → w'.heap[k]? = some o) → K (a.put o.dst v') w') :
    if Region.wanted o (yielded ops a.tmps) = true then Oper.wp Try.prog o a ((w.alloc (.cells #[.int .u8 b] 5)).drew) K Q else E :=
  step_append_byte_n w.drew hgd s x ho base v n l hown.drew b hb0 hb1 nb hnb hn hbase hs hx fun v' w' h1 h2 h3 => h v' w' h1 ⟨h2.os, h2.tape, h2.output, h2.size, h2.block⟩ h3
theorem sign_byt : byt 43 = 43 ∧ byt 45 = 45 ∧ byt 42 = 42 := by decide
set_option maxHeartbeats 4000000 in
theorem implApp_any (y : DLink) (g base : Nat) (u : Value) (t : List UInt8) (w : World) (hok : okL y = true) (hL : InC w g #[.int .u8 (y.In.toNat : Int), .int .u8 (y.Out.toNat : Int)] 42) (ht : w.ownsRow base 5 1 u t.length (cellsB t)) (hn : t.length ≤ 1000000) (hb : base ≤ w.heap.size) :
    Calls Try.prog 47 #[.pointer (some ⟨g, 0, none⟩), u] w (AppPost base (t ++ ftK y) w) := by
  have HSM : Hid ((y.In.toNat : Int) = (y.Out.toNat : Int) → ftK y = [byt (y.In.toNat : Int)]) := ft_same
  have HPU : Hid ((y.In.toNat : Int) = 0 → ftK y = [43, byt (y.Out.toNat : Int)]) := fun h0 => ft_put (ok_put hok h0) h0
  have HAW : Hid (¬ (y.In.toNat : Int) = 0 → (y.Out.toNat : Int) = 0 → ftK y = [45, byt (y.In.toNat : Int)]) := fun h h0 => ft_away h h0
  have HVO : Hid (¬ (y.In.toNat : Int) = (y.Out.toNat : Int) → ¬ (y.In.toNat : Int) = 0 → ¬ (y.Out.toNat : Int) = 0 → ftK y = [42, byt (y.In.toNat : Int)]) := fun h h1 h2 => ft_voice h h1 h2
  have ha := u8_in y.In
  have hb8 := u8_in y.Out
  generalize ftK y = r at *
  generalize (y.In.toNat : Int) = a at *
  generalize (y.Out.toNat : Int) = b at *
  have c0 := hL.cell 0 rfl
  have c1 := hL.cell 1 rfl
  have HL := Lib.hid hL
  have HT := Lib.hid ht
  have HN := Lib.hid hn
  have HBS := Lib.hid hb
  have HAB := Lib.hid (And.intro ha hb8)
  clear hL ht hn hb ha hb8 hok
  go_enter Try.func47, Try.ntmps47
  by_cases ha : a = 0
  case pos =>
    have HR := Lib.hid (HPU.out ha)
    subst ha
    go_wp2_with (at_builtin; refine wpList_append_byte_n _ rfl (.tmp 11) (.tmp 12) rfl base _ _ _ rfl HT.out 43 (by omega) (by omega) _ (by simp) rfl (by have := HN.out; omega) HBS.out ?_; intro v1 w1 h1 hb1 hk1; have hl1 : InC w1 g #[.int .u8 0, .int .u8 b] 42 := hk1 _ _ HL.out (not5 (by decide)); have d0 := hl1.cell 0 rfl; have d1 := hl1.cell 1 rfl; have HT1 := Lib.hid h1; have HK1 := Lib.hid hk1; have HB1 := Lib.hid hb1; clear h1 hb1 hk1 hl1)
    have HT2 : Hid ((w1.alloc (.cells #[.int .u8 0, .int .u8 b] 5)).ownsRow base 5 1 _ _ (cellsB (t ++ [byt 43]))) := HT1.out.alloc _
    have HB2 : Hid (Below base w (w1.alloc (.cells #[.int .u8 0, .int .u8 b] 5))) := HB1.out.alloc (Nat.le_trans HBS.out HB1.out.size) _
    have HK2 := Lib.hid (keep_alloc HK1.out (cs := #[.int .u8 0, .int .u8 b]))
    have HOR : Hid (∀ W : World, W.heap = (w1.alloc (.cells #[.int .u8 0, .int .u8 b] 5)).heap → Calls Try.prog 55 #[.slice (some ⟨w1.heap.size, 0, none⟩) 2 2] W fun e w' => e = .returned (.int .u8 b) ∧ W = w') := fun W hW => by
      have hh := implOr_any 0 b w1.heap.size W (by unfold InC; rw [hW]; exact heap_alloc_new w1 _)
      rwa [show (if (0 : Int) = 0 then b else 0) = b from if_pos rfl] at hh
    have HQ : Hid (0 ≤ b ∧ b < 256) := by have := HAB.out; unfold Hid; omega
    have HNB : Hid (w1.heap.size + 1 = (w1.alloc (.cells #[.int .u8 0, .int .u8 b] 5)).heap.size) := by unfold Hid; simp
    have HN2 : Hid ((t.length + 1) ≤ 70368744177664) := by have := HN.out; unfold Hid; omega
    have HBS2 : Hid (base ≤ (w1.alloc (.cells #[.int .u8 0, .int .u8 b] 5)).heap.size) := Nat.le_trans HBS.out HB2.out.size
    go_region_law (first | (go_simp; go_at_call 55; refine (HOR.out _ ?_).mono ?_; rfl; rintro e w2 ⟨rfl, rfl⟩) | (refine step_append_byte_drew (w1.alloc (.cells #[.int .u8 0, .int .u8 b] 5)) rfl (.tmp 36) (.tmp 47) rfl base v1 (t.length + 1) (t ++ [byt 43]) HT2.out b HQ.out.1 HQ.out.2 (w1.heap.size + 1) HNB.out HN2.out HBS2.out (by simp [Act.eval]) (by simp [Act.eval]) ?_; intro v3 w3 h1 hb1 hk1; have HT3 := Lib.hid h1; have HB3 := Lib.hid (HB2.out.trans hb1); have HK3 := Lib.hid hk1; clear h1 hb1 hk1))
    all_goals
      go_wp2
      go_ret
      exact ⟨v3, rfl, by rw [HR.out]; simpa [Hid, List.length_append, Nat.add_assoc, sign_byt] using HT3, HB3.out, fun k o h hne => HK3.out k o (HK2.out k o h hne) hne⟩
  by_cases hb : b = 0
  case pos =>
    have HR := Lib.hid (HAW.out ha hb)
    subst hb
    go_wp2_with (at_builtin; refine wpList_append_byte_n _ rfl (.tmp 20) (.tmp 21) rfl base _ _ _ rfl HT.out 45 (by omega) (by omega) _ (by simp) rfl (by have := HN.out; omega) HBS.out ?_; intro v1 w1 h1 hb1 hk1; have hl1 : InC w1 g #[.int .u8 a, .int .u8 0] 42 := hk1 _ _ HL.out (not5 (by decide)); have d0 := hl1.cell 0 rfl; have d1 := hl1.cell 1 rfl; have HT1 := Lib.hid h1; have HK1 := Lib.hid hk1; have HB1 := Lib.hid hb1; clear h1 hb1 hk1 hl1)
    have HT2 : Hid ((w1.alloc (.cells #[.int .u8 a, .int .u8 0] 5)).ownsRow base 5 1 _ _ (cellsB (t ++ [byt 45]))) := HT1.out.alloc _
    have HB2 : Hid (Below base w (w1.alloc (.cells #[.int .u8 a, .int .u8 0] 5))) := HB1.out.alloc (Nat.le_trans HBS.out HB1.out.size) _
    have HK2 := Lib.hid (keep_alloc HK1.out (cs := #[.int .u8 a, .int .u8 0]))
    have HOR : Hid (∀ W : World, W.heap = (w1.alloc (.cells #[.int .u8 a, .int .u8 0] 5)).heap → Calls Try.prog 55 #[.slice (some ⟨w1.heap.size, 0, none⟩) 2 2] W fun e w' => e = .returned (.int .u8 a) ∧ W = w') := fun W hW => by
      have hh := implOr_any a 0 w1.heap.size W (by unfold InC; rw [hW]; exact heap_alloc_new w1 _)
      rwa [show (if a = 0 then 0 else a) = a from if_neg ha] at hh
    have HQ : Hid (0 ≤ a ∧ a < 256) := by have := HAB.out; unfold Hid; omega
    have HNB : Hid (w1.heap.size + 1 = (w1.alloc (.cells #[.int .u8 a, .int .u8 0] 5)).heap.size) := by unfold Hid; simp
    have HN2 : Hid ((t.length + 1) ≤ 70368744177664) := by have := HN.out; unfold Hid; omega
    have HBS2 : Hid (base ≤ (w1.alloc (.cells #[.int .u8 a, .int .u8 0] 5)).heap.size) := Nat.le_trans HBS.out HB2.out.size
    go_region_law (first | (go_simp; go_at_call 55; refine (HOR.out _ ?_).mono ?_; rfl; rintro e w2 ⟨rfl, rfl⟩) | (refine step_append_byte_drew (w1.alloc (.cells #[.int .u8 a, .int .u8 0] 5)) rfl (.tmp 36) (.tmp 47) rfl base v1 (t.length + 1) (t ++ [byt 45]) HT2.out a HQ.out.1 HQ.out.2 (w1.heap.size + 1) HNB.out HN2.out HBS2.out (by simp [Act.eval]) (by simp [Act.eval]) ?_; intro v3 w3 h1 hb1 hk1; have HT3 := Lib.hid h1; have HB3 := Lib.hid (HB2.out.trans hb1); have HK3 := Lib.hid hk1; clear h1 hb1 hk1))
    all_goals
      go_wp2
      go_ret
      exact ⟨v3, rfl, by rw [HR.out]; simpa [Hid, List.length_append, Nat.add_assoc, sign_byt] using HT3, HB3.out, fun k o h hne => HK3.out k o (HK2.out k o h hne) hne⟩
  by_cases hab : a = b
  case pos =>
    have HR := Lib.hid (HSM.out hab)
    subst hab
    go_wp2
    go_quiet (fail)
    generalize hwd : w.drewN nq = w1 at *
    have hl1 : InC w1 g #[.int .u8 a, .int .u8 a] 42 := by rw [← hwd]; exact inC_drewN HL.out
    have d0 := hl1.cell 0 rfl
    have d1 := hl1.cell 1 rfl
    have HT1 : Hid (w1.ownsRow base 5 1 u t.length (cellsB t)) := by unfold Hid; rw [← hwd]; exact ownsRow_drewN6 HT.out
    have HB1 : Hid (Below base w w1) := by unfold Hid; rw [← hwd]; exact Below6.drewN (Below.refl _ _)
    have HK1 : Hid (∀ (k : Nat) (o : Obj), w.heap[k]? = some o → (∀ c fz, o ≠ .cells c 5 fz) → w1.heap[k]? = some o) := by unfold Hid; rw [← hwd]; intro k o h _; rw [drewN_heap]; exact h
    clear hwd hl1
    go_wp2
    have HT2 : Hid ((w1.alloc (.cells #[.int .u8 a, .int .u8 a] 5)).ownsRow base 5 1 _ _ (cellsB t)) := HT1.out.alloc _
    have HB2 : Hid (Below base w (w1.alloc (.cells #[.int .u8 a, .int .u8 a] 5))) := HB1.out.alloc (Nat.le_trans HBS.out HB1.out.size) _
    have HK2 := Lib.hid (keep_alloc HK1.out (cs := #[.int .u8 a, .int .u8 a]))
    have HOR : Hid (∀ W : World, W.heap = (w1.alloc (.cells #[.int .u8 a, .int .u8 a] 5)).heap → Calls Try.prog 55 #[.slice (some ⟨w1.heap.size, 0, none⟩) 2 2] W fun e w' => e = .returned (.int .u8 a) ∧ W = w') := fun W hW => by
      have hh := implOr_any a a w1.heap.size W (by unfold InC; rw [hW]; exact heap_alloc_new w1 _)
      rwa [show (if a = 0 then a else a) = a from if_neg ha] at hh
    have HQ : Hid (0 ≤ a ∧ a < 256) := by have := HAB.out; unfold Hid; omega
    have HNB : Hid (w1.heap.size + 1 = (w1.alloc (.cells #[.int .u8 a, .int .u8 a] 5)).heap.size) := by unfold Hid; simp
    have HN2 : Hid (t.length ≤ 70368744177664) := by have := HN.out; unfold Hid; omega
    have HBS2 : Hid (base ≤ (w1.alloc (.cells #[.int .u8 a, .int .u8 a] 5)).heap.size) := Nat.le_trans HBS.out HB2.out.size
    go_region_law (first | (go_simp; go_at_call 55; refine (HOR.out _ ?_).mono ?_; rfl; rintro e w2 ⟨rfl, rfl⟩) | (refine step_append_byte_drew (w1.alloc (.cells #[.int .u8 a, .int .u8 a] 5)) rfl (.tmp 36) (.tmp 47) rfl base u t.length t HT2.out a HQ.out.1 HQ.out.2 (w1.heap.size + 1) HNB.out HN2.out HBS2.out (by simp [Act.eval]) (by simp [Act.eval]) ?_; intro v3 w3 h1 hb1 hk1; have HT3 := Lib.hid h1; have HB3 := Lib.hid (HB2.out.trans hb1); have HK3 := Lib.hid hk1; clear h1 hb1 hk1))
    all_goals
      go_wp2
      go_ret
      exact ⟨v3, rfl, by rw [HR.out]; simpa [Hid, List.length_append, Nat.add_assoc, sign_byt] using HT3, HB3.out, fun k o h hne => HK3.out k o (HK2.out k o h hne) hne⟩
  have HR := Lib.hid (HVO.out hab ha hb)
  go_wp2
  go_quiet (fail)
  generalize hwd : w.drewN nq = wd at *
  have HTd : Hid (wd.ownsRow base 5 1 u t.length (cellsB t)) := by unfold Hid; rw [← hwd]; exact ownsRow_drewN6 HT.out
  have HLd : Hid (InC wd g #[.int .u8 a, .int .u8 b] 42) := by unfold Hid; rw [← hwd]; exact inC_drewN HL.out
  have HBd : Hid (Below base w wd) := by unfold Hid; rw [← hwd]; exact Below6.drewN (Below.refl _ _)
  have HKd : Hid (∀ (k : Nat) (o : Obj), w.heap[k]? = some o → (∀ c fz, o ≠ .cells c 5 fz) → wd.heap[k]? = some o) := by unfold Hid; rw [← hwd]; intro k o h _; rw [drewN_heap]; exact h
  have HSd : Hid (base ≤ wd.heap.size) := by unfold Hid; rw [← hwd, drewN_heap]; exact HBS.out
  clear hwd
  go_wp2_with (at_builtin; refine wpList_append_byte_n _ rfl (.tmp 33) (.tmp 34) rfl base _ _ _ rfl HTd.out 42 (by omega) (by omega) _ (by simp) rfl (by have := HN.out; omega) HSd.out ?_; intro v1 w1 h1 hb1 hk1; have hl1 : InC w1 g #[.int .u8 a, .int .u8 b] 42 := hk1 _ _ HLd.out (not5 (by decide)); have d0 := hl1.cell 0 rfl; have d1 := hl1.cell 1 rfl; have HT1 := Lib.hid h1; have HK1 := Lib.hid hk1; have HB1 := Lib.hid hb1; clear h1 hb1 hk1 hl1)
  replace HB1 := Lib.hid (HBd.out.trans HB1.out)
  replace HK1 : Hid (∀ (k : Nat) (o : Obj), w.heap[k]? = some o → (∀ c fz, o ≠ .cells c 5 fz) → w1.heap[k]? = some o) := fun k o h hne => HK1.out k o (HKd.out k o h hne) hne
  have HT2 : Hid ((w1.alloc (.cells #[.int .u8 a, .int .u8 b] 5)).ownsRow base 5 1 _ _ (cellsB (t ++ [byt 42]))) := HT1.out.alloc _
  have HB2 : Hid (Below base w (w1.alloc (.cells #[.int .u8 a, .int .u8 b] 5))) := HB1.out.alloc (Nat.le_trans HBS.out HB1.out.size) _
  have HK2 := Lib.hid (keep_alloc HK1.out (cs := #[.int .u8 a, .int .u8 b]))
  have HOR : Hid (∀ W : World, W.heap = (w1.alloc (.cells #[.int .u8 a, .int .u8 b] 5)).heap → Calls Try.prog 55 #[.slice (some ⟨w1.heap.size, 0, none⟩) 2 2] W fun e w' => e = .returned (.int .u8 a) ∧ W = w') := fun W hW => by
    have hh := implOr_any a b w1.heap.size W (by unfold InC; rw [hW]; exact heap_alloc_new w1 _)
    rwa [show (if a = 0 then b else a) = a from if_neg ha] at hh
  have HQ : Hid (0 ≤ a ∧ a < 256) := by have := HAB.out; unfold Hid; omega
  have HNB : Hid (w1.heap.size + 1 = (w1.alloc (.cells #[.int .u8 a, .int .u8 b] 5)).heap.size) := by unfold Hid; simp
  have HN2 : Hid ((t.length + 1) ≤ 70368744177664) := by have := HN.out; unfold Hid; omega
  have HBS2 : Hid (base ≤ (w1.alloc (.cells #[.int .u8 a, .int .u8 b] 5)).heap.size) := Nat.le_trans HBS.out HB2.out.size
  go_region_law (first | (go_simp; go_at_call 55; refine (HOR.out _ ?_).mono ?_; rfl; rintro e w2 ⟨rfl, rfl⟩) | (refine step_append_byte_drew (w1.alloc (.cells #[.int .u8 a, .int .u8 b] 5)) rfl (.tmp 36) (.tmp 47) rfl base v1 (t.length + 1) (t ++ [byt 42]) HT2.out a HQ.out.1 HQ.out.2 (w1.heap.size + 1) HNB.out HN2.out HBS2.out (by simp [Act.eval]) (by simp [Act.eval]) ?_; intro v3 w3 h1 hb1 hk1; have HT3 := Lib.hid h1; have HB3 := Lib.hid (HB2.out.trans hb1); have HK3 := Lib.hid hk1; clear h1 hb1 hk1))
  all_goals
    go_wp2
    go_ret
    exact ⟨v3, rfl, by rw [HR.out]; simpa [Hid, List.length_append, Nat.add_assoc, sign_byt] using HT3, HB3.out, fun k o h hne => HK3.out k o (HK2.out k o h hne) hne⟩
end Go.Proofs.Ytlekcnddejnejaa
