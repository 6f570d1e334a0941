/- Merged: Ic3a Ic4a Fp11 TzStringS Tz0 TzLinkS TzCandidate TzCandidateS TzIntS. -/
import Derived.Test.YtcgmlhlnkbjfnaaGreatDoorQ6
import Derived.Test.YtcgmlhlnkbjfnaaGreatDoorQ4
import Derived.BigRegion
import Derived.BigQuiet
import Derived.Deep.RegionLaw
import Derived.Test.YtcgmlhlnkbjfnaaGreatDoorQ7
import Derived.Test.YtcgmlhlnkbjfnaaGreatDoorQ8
import Derived.Test.YtcgmlhlnkbjfnaaGreatDoorQ9
import Derived.Test.YtcgmlhlnkbjfnaaGreatDoorLj
import Derived.Test.YtcgmlhlnkbjfnaaGreatDoorQ1
import Derived.Test.YtcgmlhlnkbjfnaaGreatDoorQ2
import Derived.WalkKit
import Derived.Test.YtcgmlhlnkbjfnaaGreatDoorRows
import Derived.Lib.QuietBelow
/- The program's appendTo: what it answers. -/
namespace Go.Proofs.YtcgmlhlnkbjfnaaGreatDoor
set_option maxRecDepth 100000
open Go.RowKit M
set_option linter.unusedVariables false
set_option linter.unusedSimpArgs false

theorem implOr_any (a b : Int) (g : Nat) (w : World) (h : InC w g #[.int .u8 a, .int .u8 b] 5) :
    Calls Tryz.prog 140 #[.slice (some ⟨g, 0, none⟩) 2 2] w fun e w' => e = .returned (.int .u8 (if a = 0 then b else a)) ∧ w = w' := by
  have c0 := h.cell 0 rfl
  have c1 := h.cell 1 rfl
  clear h
  go_enter Tryz.func140, Tryz.ntmps140
  go_wp2
  go_loop [8] (fun i => ∃ j : Nat, j ≤ 2 ∧ i = .int .i64 j ∧ Hid ((1 ≤ j → a = 0) ∧ (2 ≤ j → b = 0))) (fun i => 2 - (intOf i).toNat)
  case atStart => exact ⟨0, by omega, rfl, fun h => by omega, fun h => by omega⟩
  case round =>
    obtain ⟨j, hj, rfl, hx⟩ := hrel
    rcases (show j = 0 ∨ j = 1 ∨ j = 2 by omega) with rfl | rfl | rfl
    · by_cases ha : a = 0
      · subst ha
        go_wp2
        go_round
        case rel => exact ⟨1, by omega, by go_num, by simp [Hid]⟩
        case measure => simp [intOf]
      · go_wp2
        go_ret
        exact ⟨rfl, by trivial⟩
    · have ha : a = 0 := hx.out.1 (by omega)
      subst ha
      by_cases hb : b = 0
      · subst hb
        go_wp2
        go_round
        case rel => exact ⟨2, by omega, by go_num, by simp [Hid]⟩
        case measure => simp [intOf]
      · go_wp2
        go_ret
        exact ⟨rfl, by trivial⟩
    · have ha : a = 0 := hx.out.1 (by omega)
      have hb : b = 0 := hx.out.2 (by omega)
      subst ha hb
      go_wp2
      go_ret
      exact ⟨rfl, by trivial⟩
def AppPost (base : Nat) (t : List UInt8) (w : World) (e : Ending) (w' : World) : Prop := ∃ u, e = .returned u ∧ w'.ownsRow base 5 1 u t.length (cellsB t) ∧ Below base w w' ∧ ∀ (k : Nat) (o : Obj), w.heap[k]? = some o → (∀ c fz, o ≠ .cells c 5 fz) → w'.heap[k]? = some o
theorem not5 {cs : Array Value} {t : TypeId} (ht : t ≠ 5) : ∀ c fz, Obj.cells cs t (0, 0) ≠ .cells c 5 fz := by
  intro c fz e; injection e with _ e2 _; exact ht e2
theorem keep_alloc {w w' : World} (h : ∀ (k : Nat) (o : Obj), w.heap[k]? = some o → (∀ c fz, o ≠ .cells c 5 fz) → w'.heap[k]? = some o) {cs : Array Value} : ∀ (k : Nat) (o : Obj), w.heap[k]? = some o → (∀ c fz, o ≠ .cells c 5 fz) → (w'.alloc (.cells cs 5)).heap[k]? = some o := by
  intro k o hk hne
  have h1 := h k o hk hne
  have hlt : k < w'.heap.size := lt_of_block h1
  exact (Below.heap_alloc w' _ k hlt).trans h1
theorem ownsRow_drewN6 {w : World} {base n m : Nat} {v : Value} {c : List Value} (h : w.ownsRow base 5 1 v n c) : (w.drewN m).ownsRow base 5 1 v n c := by
  induction m generalizing w with
  | zero => exact h
  | succ m ih => exact ih h.drew
theorem wpList_append_byte_n {ops : Array Oper} {rest : List Oper} {o : Oper} {a : Act} {Q : Exit → Act → World → Prop} (w : World) (hgd : o.guard = none) (s x : Operand)
    (ho : o.op = .call { callee := .builtin .append, args := #[s, x], argTypes := #[111, 111] })
    (base : Nat) (v : Value) (n : Nat) (l : List UInt8) (hs : a.eval s = v) (hown : w.ownsRow base 5 1 v n (cellsB l)) (b : Int) (hb0 : 0 ≤ b) (hb1 : b < 256)
    (nb : Nat) (hnb : nb = w.heap.size) (hx : a.eval x = .slice (some ⟨nb, 0, none⟩) 1 1) (hn : n ≤ 70368744177664) (hbase : base ≤ w.heap.size)
    (h : ∀ v' w', w'.ownsRow base 5 1 v' (n + 1) (cellsB (l ++ [byt b])) → Below base w w' → (∀ (k : Nat) (o : Obj), w.heap[k]? = some o → (∀ c fz, o ≠ .cells c 5 fz) → w'.heap[k]? = some o) → wpList Tryz.prog ops Q rest (a.put o.dst v') w') :
    wpList Tryz.prog ops Q (o :: rest) a (w.alloc (.cells #[.int .u8 b] 5)) := by
  subst hnb
  exact wpList_append_byte_k w hgd s x ho base v n l hs hown b hb0 hb1 hx hn hbase h
theorem step_append_byte_n {ops : Array Oper} {o : Oper} {a : Act} {K : Act → World → Prop} {Q : Exit → Act → World → Prop} {E : Prop} (w : World) (hgd : o.guard = none) (s x : Operand)
    (ho : o.op = .call { callee := .builtin .append, args := #[s, x], argTypes := #[111, 111] })
    (base : Nat) (v : Value) (n : Nat) (l : List UInt8) (hown : w.ownsRow base 5 1 v n (cellsB l)) (b : Int) (hb0 : 0 ≤ b) (hb1 : b < 256)
    (nb : Nat) (hnb : nb = w.heap.size) (hn : n ≤ 70368744177664) (hbase : base ≤ w.heap.size) (hs : a.eval s = v) (hx : a.eval x = .slice (some ⟨nb, 0, none⟩) 1 1)
    (h : ∀ v' w', w'.ownsRow base 5 1 v' (n + 1) (cellsB (l ++ [byt b])) → Below base w w' → (∀ (k : Nat) (o : Obj), w.heap[k]? = some o → (∀ c fz, o ≠ .cells c 5 fz) → w'.heap[k]? = some o) → K (a.put o.dst v') w') :
    if Region.wanted o (yielded ops a.tmps) = true then Oper.wp Tryz.prog o a (w.alloc (.cells #[.int .u8 b] 5)) K Q else E := by
  have hw : Region.wanted o (yielded ops a.tmps) = true := by simp [Region.wanted, hgd]
  rw [if_pos hw]
  subst hnb
  obtain ⟨i0, hi, hz0, hz1, hz2⟩ := info_parts Tryz.info5
  refine wp_append_own (w.alloc (.cells #[.int .u8 b] 5)) s x 111 ho base 5 i0 (.int .u8 0) 1 1 Tryz.underlying111 hi hz0 hz1 hz2 rfl (by decide) v n (cellsB l) hs (hown.alloc _) ⟨w.heap.size, 0, none⟩ 1 1 [.int .u8 b] hx rfl (cell_one_new _ _ _)
    (fun u hu => by simp at hu; subst hu; rfl) (by unfold maxLen; omega) (by omega) (by simp; omega) ?_
  intro v' w' h1 h2 _
  refine h v' w' (by rw [cellsB_append, cellsB_one b hb0 hb1]; exact h1) ?_ ?_
  · exact ((Below.refl base w).alloc hbase _).grown h2 (by simp; omega) (fun q hq => (hown.lt q hq).1)
  · intro k ob hk hob
    have hlt : k < w.heap.size := lt_of_block hk
    have hne : some k ≠ v.ownBlock := by
      rcases hown.2 with ⟨rfl, _⟩ | ⟨g, cap, cur, rfl, _, hg, _⟩
      · simp [Value.ownBlock]
      · intro e
        have : k = g := by simpa [Value.ownBlock] using e
        subst this
        rw [hk] at hg
        exact hob _ _ (Option.some.inj hg)
    rw [h2.block k (by simp; omega) hne, Below.heap_alloc _ _ _ hlt, hk]
theorem step_append_byte_drew {ops : Array Oper} {o : Oper} {a : Act} {K : Act → World → Prop} {Q : Exit → Act → World → Prop} {E : Prop} (w : World) (hgd : o.guard = none) (s x : Operand)
    (ho : o.op = .call { callee := .builtin .append, args := #[s, x], argTypes := #[111, 111] })
    (base : Nat) (v : Value) (n : Nat) (l : List UInt8) (hown : w.ownsRow base 5 1 v n (cellsB l)) (b : Int) (hb0 : 0 ≤ b) (hb1 : b < 256)
    (nb : Nat) (hnb : nb = w.heap.size) (hn : n ≤ 70368744177664) (hbase : base ≤ w.heap.size) (hs : a.eval s = v) (hx : a.eval x = .slice (some ⟨nb, 0, none⟩) 1 1)
    (h : ∀ v' w', w'.ownsRow base 5 1 v' (n + 1) (cellsB (l ++ [byt b])) → Below base w w' → (∀ (k : Nat) (o : Obj), w.heap[k]? = some o → (∀ c fz, o ≠ .cells c 5 fz) → w'.heap[k]? = some o) → K (a.put o.dst v') w') :
    if Region.wanted o (yielded ops a.tmps) = true then Oper.wp Tryz.prog o a ((w.alloc (.cells #[.int .u8 b] 5)).drew) K Q else E :=
  step_append_byte_n w.drew hgd s x ho base v n l hown.drew b hb0 hb1 nb hnb hn hbase hs hx fun v' w' h1 h2 h3 => h v' w' h1 ⟨h2.os, h2.tape, h2.output, h2.size, h2.block⟩ h3
theorem sign_byt : byt 43 = 43 ∧ byt 45 = 45 ∧ byt 42 = 42 := by decide
set_option maxHeartbeats 4000000 in
theorem implApp_any (y : DLink) (g base : Nat) (u : Value) (t : List UInt8) (w : World) (hok : okL y = true) (hL : InC w g #[.int .u8 (y.In.toNat : Int), .int .u8 (y.Out.toNat : Int)] 101) (ht : w.ownsRow base 5 1 u t.length (cellsB t)) (hn : t.length ≤ 1000000) (hb : base ≤ w.heap.size) :
    Calls Tryz.prog 106 #[.pointer (some ⟨g, 0, none⟩), u] w (AppPost base (t ++ ftK y) w) := by
  have HSM : Hid ((y.In.toNat : Int) = (y.Out.toNat : Int) → ftK y = [byt (y.In.toNat : Int)]) := ft_same
  have HPU : Hid ((y.In.toNat : Int) = 0 → ftK y = [43, byt (y.Out.toNat : Int)]) := fun h0 => ft_put (ok_put hok h0) h0
  have HAW : Hid (¬ (y.In.toNat : Int) = 0 → (y.Out.toNat : Int) = 0 → ftK y = [45, byt (y.In.toNat : Int)]) := fun h h0 => ft_away h h0
  have HVO : Hid (¬ (y.In.toNat : Int) = (y.Out.toNat : Int) → ¬ (y.In.toNat : Int) = 0 → ¬ (y.Out.toNat : Int) = 0 → ftK y = [42, byt (y.In.toNat : Int)]) := fun h h1 h2 => ft_voice h h1 h2
  have ha := u8_in y.In
  have hb8 := u8_in y.Out
  generalize ftK y = r at *
  generalize (y.In.toNat : Int) = a at *
  generalize (y.Out.toNat : Int) = b at *
  have c0 := hL.cell 0 rfl
  have c1 := hL.cell 1 rfl
  have HL := Lib.hid hL
  have HT := Lib.hid ht
  have HN := Lib.hid hn
  have HBS := Lib.hid hb
  have HAB := Lib.hid (And.intro ha hb8)
  clear hL ht hn hb ha hb8 hok
  go_enter Tryz.func106, Tryz.ntmps106
  by_cases ha : a = 0
  case pos =>
    have HR := Lib.hid (HPU.out ha)
    subst ha
    go_wp2_with (at_builtin; refine wpList_append_byte_n _ rfl (.tmp 11) (.tmp 12) rfl base _ _ _ rfl HT.out 43 (by omega) (by omega) _ (by simp) rfl (by have := HN.out; omega) HBS.out ?_; intro v1 w1 h1 hb1 hk1; have hl1 : InC w1 g #[.int .u8 0, .int .u8 b] 101 := hk1 _ _ HL.out (not5 (by decide)); have d0 := hl1.cell 0 rfl; have d1 := hl1.cell 1 rfl; have HT1 := Lib.hid h1; have HK1 := Lib.hid hk1; have HB1 := Lib.hid hb1; clear h1 hb1 hk1 hl1)
    have HT2 : Hid ((w1.alloc (.cells #[.int .u8 0, .int .u8 b] 5)).ownsRow base 5 1 _ _ (cellsB (t ++ [byt 43]))) := HT1.out.alloc _
    have HB2 : Hid (Below base w (w1.alloc (.cells #[.int .u8 0, .int .u8 b] 5))) := HB1.out.alloc (Nat.le_trans HBS.out HB1.out.size) _
    have HK2 := Lib.hid (keep_alloc HK1.out (cs := #[.int .u8 0, .int .u8 b]))
    have HOR : Hid (∀ W : World, W.heap = (w1.alloc (.cells #[.int .u8 0, .int .u8 b] 5)).heap → Calls Tryz.prog 140 #[.slice (some ⟨w1.heap.size, 0, none⟩) 2 2] W fun e w' => e = .returned (.int .u8 b) ∧ W = w') := fun W hW => by
      have hh := implOr_any 0 b w1.heap.size W (by unfold InC; rw [hW]; exact heap_alloc_new w1 _)
      rwa [show (if (0 : Int) = 0 then b else 0) = b from if_pos rfl] at hh
    have HQ : Hid (0 ≤ b ∧ b < 256) := by have := HAB.out; unfold Hid; omega
    have HNB : Hid (w1.heap.size + 1 = (w1.alloc (.cells #[.int .u8 0, .int .u8 b] 5)).heap.size) := by unfold Hid; simp
    have HN2 : Hid ((t.length + 1) ≤ 70368744177664) := by have := HN.out; unfold Hid; omega
    have HBS2 : Hid (base ≤ (w1.alloc (.cells #[.int .u8 0, .int .u8 b] 5)).heap.size) := Nat.le_trans HBS.out HB2.out.size
    go_region_law (first | (go_simp; go_at_call 140; refine (HOR.out _ ?_).mono ?_; rfl; rintro e w2 ⟨rfl, rfl⟩) | (refine step_append_byte_drew (w1.alloc (.cells #[.int .u8 0, .int .u8 b] 5)) rfl (.tmp 36) (.tmp 47) rfl base v1 (t.length + 1) (t ++ [byt 43]) HT2.out b HQ.out.1 HQ.out.2 (w1.heap.size + 1) HNB.out HN2.out HBS2.out (by simp [Act.eval]) (by simp [Act.eval]) ?_; intro v3 w3 h1 hb1 hk1; have HT3 := Lib.hid h1; have HB3 := Lib.hid (HB2.out.trans hb1); have HK3 := Lib.hid hk1; clear h1 hb1 hk1))
    all_goals
      go_wp2
      go_ret
      exact ⟨v3, rfl, by rw [HR.out]; simpa [Hid, List.length_append, Nat.add_assoc, sign_byt] using HT3, HB3.out, fun k o h hne => HK3.out k o (HK2.out k o h hne) hne⟩
  by_cases hb : b = 0
  case pos =>
    have HR := Lib.hid (HAW.out ha hb)
    subst hb
    go_wp2_with (at_builtin; refine wpList_append_byte_n _ rfl (.tmp 20) (.tmp 21) rfl base _ _ _ rfl HT.out 45 (by omega) (by omega) _ (by simp) rfl (by have := HN.out; omega) HBS.out ?_; intro v1 w1 h1 hb1 hk1; have hl1 : InC w1 g #[.int .u8 a, .int .u8 0] 101 := hk1 _ _ HL.out (not5 (by decide)); have d0 := hl1.cell 0 rfl; have d1 := hl1.cell 1 rfl; have HT1 := Lib.hid h1; have HK1 := Lib.hid hk1; have HB1 := Lib.hid hb1; clear h1 hb1 hk1 hl1)
    have HT2 : Hid ((w1.alloc (.cells #[.int .u8 a, .int .u8 0] 5)).ownsRow base 5 1 _ _ (cellsB (t ++ [byt 45]))) := HT1.out.alloc _
    have HB2 : Hid (Below base w (w1.alloc (.cells #[.int .u8 a, .int .u8 0] 5))) := HB1.out.alloc (Nat.le_trans HBS.out HB1.out.size) _
    have HK2 := Lib.hid (keep_alloc HK1.out (cs := #[.int .u8 a, .int .u8 0]))
    have HOR : Hid (∀ W : World, W.heap = (w1.alloc (.cells #[.int .u8 a, .int .u8 0] 5)).heap → Calls Tryz.prog 140 #[.slice (some ⟨w1.heap.size, 0, none⟩) 2 2] W fun e w' => e = .returned (.int .u8 a) ∧ W = w') := fun W hW => by
      have hh := implOr_any a 0 w1.heap.size W (by unfold InC; rw [hW]; exact heap_alloc_new w1 _)
      rwa [show (if a = 0 then 0 else a) = a from if_neg ha] at hh
    have HQ : Hid (0 ≤ a ∧ a < 256) := by have := HAB.out; unfold Hid; omega
    have HNB : Hid (w1.heap.size + 1 = (w1.alloc (.cells #[.int .u8 a, .int .u8 0] 5)).heap.size) := by unfold Hid; simp
    have HN2 : Hid ((t.length + 1) ≤ 70368744177664) := by have := HN.out; unfold Hid; omega
    have HBS2 : Hid (base ≤ (w1.alloc (.cells #[.int .u8 a, .int .u8 0] 5)).heap.size) := Nat.le_trans HBS.out HB2.out.size
    go_region_law (first | (go_simp; go_at_call 140; refine (HOR.out _ ?_).mono ?_; rfl; rintro e w2 ⟨rfl, rfl⟩) | (refine step_append_byte_drew (w1.alloc (.cells #[.int .u8 a, .int .u8 0] 5)) rfl (.tmp 36) (.tmp 47) rfl base v1 (t.length + 1) (t ++ [byt 45]) HT2.out a HQ.out.1 HQ.out.2 (w1.heap.size + 1) HNB.out HN2.out HBS2.out (by simp [Act.eval]) (by simp [Act.eval]) ?_; intro v3 w3 h1 hb1 hk1; have HT3 := Lib.hid h1; have HB3 := Lib.hid (HB2.out.trans hb1); have HK3 := Lib.hid hk1; clear h1 hb1 hk1))
    all_goals
      go_wp2
      go_ret
      exact ⟨v3, rfl, by rw [HR.out]; simpa [Hid, List.length_append, Nat.add_assoc, sign_byt] using HT3, HB3.out, fun k o h hne => HK3.out k o (HK2.out k o h hne) hne⟩
  by_cases hab : a = b
  case pos =>
    have HR := Lib.hid (HSM.out hab)
    subst hab
    go_wp2
    go_quiet (fail)
    generalize hwd : w.drewN nq = w1 at *
    have hl1 : InC w1 g #[.int .u8 a, .int .u8 a] 101 := by rw [← hwd]; exact inC_drewN HL.out
    have d0 := hl1.cell 0 rfl
    have d1 := hl1.cell 1 rfl
    have HT1 : Hid (w1.ownsRow base 5 1 u t.length (cellsB t)) := by unfold Hid; rw [← hwd]; exact ownsRow_drewN6 HT.out
    have HB1 : Hid (Below base w w1) := by unfold Hid; rw [← hwd]; exact Below6.drewN (Below.refl _ _)
    have HK1 : Hid (∀ (k : Nat) (o : Obj), w.heap[k]? = some o → (∀ c fz, o ≠ .cells c 5 fz) → w1.heap[k]? = some o) := by unfold Hid; rw [← hwd]; intro k o h _; rw [drewN_heap]; exact h
    clear hwd hl1
    go_wp2
    have HT2 : Hid ((w1.alloc (.cells #[.int .u8 a, .int .u8 a] 5)).ownsRow base 5 1 _ _ (cellsB t)) := HT1.out.alloc _
    have HB2 : Hid (Below base w (w1.alloc (.cells #[.int .u8 a, .int .u8 a] 5))) := HB1.out.alloc (Nat.le_trans HBS.out HB1.out.size) _
    have HK2 := Lib.hid (keep_alloc HK1.out (cs := #[.int .u8 a, .int .u8 a]))
    have HOR : Hid (∀ W : World, W.heap = (w1.alloc (.cells #[.int .u8 a, .int .u8 a] 5)).heap → Calls Tryz.prog 140 #[.slice (some ⟨w1.heap.size, 0, none⟩) 2 2] W fun e w' => e = .returned (.int .u8 a) ∧ W = w') := fun W hW => by
      have hh := implOr_any a a w1.heap.size W (by unfold InC; rw [hW]; exact heap_alloc_new w1 _)
      rwa [show (if a = 0 then a else a) = a from if_neg ha] at hh
    have HQ : Hid (0 ≤ a ∧ a < 256) := by have := HAB.out; unfold Hid; omega
    have HNB : Hid (w1.heap.size + 1 = (w1.alloc (.cells #[.int .u8 a, .int .u8 a] 5)).heap.size) := by unfold Hid; simp
    have HN2 : Hid (t.length ≤ 70368744177664) := by have := HN.out; unfold Hid; omega
    have HBS2 : Hid (base ≤ (w1.alloc (.cells #[.int .u8 a, .int .u8 a] 5)).heap.size) := Nat.le_trans HBS.out HB2.out.size
    go_region_law (first | (go_simp; go_at_call 140; refine (HOR.out _ ?_).mono ?_; rfl; rintro e w2 ⟨rfl, rfl⟩) | (refine step_append_byte_drew (w1.alloc (.cells #[.int .u8 a, .int .u8 a] 5)) rfl (.tmp 36) (.tmp 47) rfl base u t.length t HT2.out a HQ.out.1 HQ.out.2 (w1.heap.size + 1) HNB.out HN2.out HBS2.out (by simp [Act.eval]) (by simp [Act.eval]) ?_; intro v3 w3 h1 hb1 hk1; have HT3 := Lib.hid h1; have HB3 := Lib.hid (HB2.out.trans hb1); have HK3 := Lib.hid hk1; clear h1 hb1 hk1))
    all_goals
      go_wp2
      go_ret
      exact ⟨v3, rfl, by rw [HR.out]; simpa [Hid, List.length_append, Nat.add_assoc, sign_byt] using HT3, HB3.out, fun k o h hne => HK3.out k o (HK2.out k o h hne) hne⟩
  have HR := Lib.hid (HVO.out hab ha hb)
  go_wp2
  go_quiet (fail)
  generalize hwd : w.drewN nq = wd at *
  have HTd : Hid (wd.ownsRow base 5 1 u t.length (cellsB t)) := by unfold Hid; rw [← hwd]; exact ownsRow_drewN6 HT.out
  have HLd : Hid (InC wd g #[.int .u8 a, .int .u8 b] 101) := by unfold Hid; rw [← hwd]; exact inC_drewN HL.out
  have HBd : Hid (Below base w wd) := by unfold Hid; rw [← hwd]; exact Below6.drewN (Below.refl _ _)
  have HKd : Hid (∀ (k : Nat) (o : Obj), w.heap[k]? = some o → (∀ c fz, o ≠ .cells c 5 fz) → wd.heap[k]? = some o) := by unfold Hid; rw [← hwd]; intro k o h _; rw [drewN_heap]; exact h
  have HSd : Hid (base ≤ wd.heap.size) := by unfold Hid; rw [← hwd, drewN_heap]; exact HBS.out
  clear hwd
  go_wp2_with (at_builtin; refine wpList_append_byte_n _ rfl (.tmp 33) (.tmp 34) rfl base _ _ _ rfl HTd.out 42 (by omega) (by omega) _ (by simp) rfl (by have := HN.out; omega) HSd.out ?_; intro v1 w1 h1 hb1 hk1; have hl1 : InC w1 g #[.int .u8 a, .int .u8 b] 101 := hk1 _ _ HLd.out (not5 (by decide)); have d0 := hl1.cell 0 rfl; have d1 := hl1.cell 1 rfl; have HT1 := Lib.hid h1; have HK1 := Lib.hid hk1; have HB1 := Lib.hid hb1; clear h1 hb1 hk1 hl1)
  replace HB1 := Lib.hid (HBd.out.trans HB1.out)
  replace HK1 : Hid (∀ (k : Nat) (o : Obj), w.heap[k]? = some o → (∀ c fz, o ≠ .cells c 5 fz) → w1.heap[k]? = some o) := fun k o h hne => HK1.out k o (HKd.out k o h hne) hne
  have HT2 : Hid ((w1.alloc (.cells #[.int .u8 a, .int .u8 b] 5)).ownsRow base 5 1 _ _ (cellsB (t ++ [byt 42]))) := HT1.out.alloc _
  have HB2 : Hid (Below base w (w1.alloc (.cells #[.int .u8 a, .int .u8 b] 5))) := HB1.out.alloc (Nat.le_trans HBS.out HB1.out.size) _
  have HK2 := Lib.hid (keep_alloc HK1.out (cs := #[.int .u8 a, .int .u8 b]))
  have HOR : Hid (∀ W : World, W.heap = (w1.alloc (.cells #[.int .u8 a, .int .u8 b] 5)).heap → Calls Tryz.prog 140 #[.slice (some ⟨w1.heap.size, 0, none⟩) 2 2] W fun e w' => e = .returned (.int .u8 a) ∧ W = w') := fun W hW => by
    have hh := implOr_any a b w1.heap.size W (by unfold InC; rw [hW]; exact heap_alloc_new w1 _)
    rwa [show (if a = 0 then b else a) = a from if_neg ha] at hh
  have HQ : Hid (0 ≤ a ∧ a < 256) := by have := HAB.out; unfold Hid; omega
  have HNB : Hid (w1.heap.size + 1 = (w1.alloc (.cells #[.int .u8 a, .int .u8 b] 5)).heap.size) := by unfold Hid; simp
  have HN2 : Hid ((t.length + 1) ≤ 70368744177664) := by have := HN.out; unfold Hid; omega
  have HBS2 : Hid (base ≤ (w1.alloc (.cells #[.int .u8 a, .int .u8 b] 5)).heap.size) := Nat.le_trans HBS.out HB2.out.size
  go_region_law (first | (go_simp; go_at_call 140; refine (HOR.out _ ?_).mono ?_; rfl; rintro e w2 ⟨rfl, rfl⟩) | (refine step_append_byte_drew (w1.alloc (.cells #[.int .u8 a, .int .u8 b] 5)) rfl (.tmp 36) (.tmp 47) rfl base v1 (t.length + 1) (t ++ [byt 42]) HT2.out a HQ.out.1 HQ.out.2 (w1.heap.size + 1) HNB.out HN2.out HBS2.out (by simp [Act.eval]) (by simp [Act.eval]) ?_; intro v3 w3 h1 hb1 hk1; have HT3 := Lib.hid h1; have HB3 := Lib.hid (HB2.out.trans hb1); have HK3 := Lib.hid hk1; clear h1 hb1 hk1))
  all_goals
    go_wp2
    go_ret
    exact ⟨v3, rfl, by rw [HR.out]; simpa [Hid, List.length_append, Nat.add_assoc, sign_byt] using HT3, HB3.out, fun k o h hne => HK3.out k o (HK2.out k o h hne) hne⟩
end Go.Proofs.YtcgmlhlnkbjfnaaGreatDoor

/- The program's FormatCandidate: what it answers. -/
namespace Go.Proofs.YtcgmlhlnkbjfnaaGreatDoor
set_option maxRecDepth 100000
open Go.RowKit M
set_option linter.unusedVariables false
set_option linter.unusedSimpArgs false

set_option maxHeartbeats 4000000 in
theorem implFmt_cd (x : DCandidate) (v : Value) (F : Addr → Prop) (w : World) (hl : x.Links.length ≤ 1048576) (hv : RowRd rLink false w v x.Links F) :
    Calls Tryz.prog 74 #[.agg #[v]] w fun e w' => e = .returned (.string ⟨(fmtC x.Links).toArray⟩) ∧ Below w.heap.size w w' := by
  have HS0 : Hid (∀ W, Below w.heap.size w W → Calls Tryz.prog 61 #[.agg #[v]] W fun e w' => e = .returned (.bool (isCd x.Links)) ∧ Below W.heap.size W w') := fun W hW => implIsCd_any x _ F W hl (hv.kept hW)
  obtain ⟨A, cap, rfl⟩ := hv.form
  have HV := Lib.hid hv
  clear hv
  have HE : Hid (fmtC x.Links = if isCd x.Links then (if x.Links = [] then noneB else ftC x.Links) else []) := rfl
  have HOKS : Hid (isCd x.Links = true → ∀ k y, x.Links[k]? = some y → okL y = true) := fun h k y hy => isCd_ok h (List.mem_of_getElem? hy)
  have HLE : Hid (isCd x.Links = true → x.Links.length ≤ 16) := isCd_len
  generalize isCd x.Links = c at *
  generalize fmtC x.Links = r at *
  generalize x.Links = l at *
  have HA : Hid (∀ o, Below w.heap.size w (w.alloc o)) := fun o => (Below.refl _ _).alloc (Nat.le_refl _) _
  have HA1 : Hid (InC (w.alloc (.cells #[.slice A l.length cap] 59)) w.heap.size #[.slice A l.length cap] 59) := heap_alloc_new _ _
  go_enter Tryz.func74, Tryz.ntmps74
  go_wp2_with fail
  refine (HS0.out _ (HA.out _)).mono ?_
  rintro e w2 ⟨rfl, hb⟩
  have hi1 := HA1.out.kept hb
  have b1 := hi1.cell 0 rfl
  have HI1 := Lib.hid hi1
  have HB : Hid (Below w.heap.size w w2) := below_step (HA.out _) hb
  have HSZ : Hid (w.heap.size + 1 ≤ w2.heap.size) := by have := hb.size; unfold Hid; simp at this; exact this
  clear hb hi1 HS0
  cases c
  · go_wp2_with fail
    go_ret
    exact ⟨ret_str (by rw [HE.out] <;> rfl), HB.out⟩
  · have h16 := HLE.out rfl
    have HOKY0 := Lib.hid (HOKS.out rfl)
    clear HOKS
    by_cases hl0 : l.length = 0
    · have hnil : l = [] := List.eq_nil_of_length_eq_zero hl0
      have HR : Hid (r = noneB) := by unfold Hid; rw [HE.out, if_pos rfl, if_pos hnil]
      subst hnil
      go_wp2_with fail
      go_ret
      exact ⟨ret_str (by rw [HR.out] <;> rfl), HB.out⟩
    · have HR : Hid (r = ftC l) := by unfold Hid; rw [HE.out, if_pos rfl, if_neg (fun e => hl0 (by rw [e]; rfl))]
      have hln : ¬ (l.length : Int) = 0 := by omega
      have hlb : ((l.length : Int) == 0) = false := by simpa using hl0
      have HX : Hid (∀ k, k < l.length → ∃ y, l[k]? = some y) := fun k hk => ⟨_, List.getElem?_eq_getElem hk⟩
      go_wp2_with fail
      go_loopw [3, 16] (fun u i wr => ∃ (k : Nat), k ≤ l.length ∧ i = .int .i64 k ∧ wr.ownsRow (w.heap.size + 1) 5 1 u (ftC (l.take k)).length (cellsB (ftC (l.take k))) ∧ Below w.heap.size w wr ∧ Hid (w.heap.size + 1 ≤ wr.heap.size) ∧ InC wr w.heap.size #[.slice A l.length cap] 59) (fun _ i _ => l.length - (intOf i).toNat)
      case atStart => exact ⟨0, by omega, rfl, World.ownsRow_nil _ _ _ _, HB.out, HSZ, HI1.out⟩
      case round =>
        obtain ⟨k, hk, rfl, ho, hbe, hs1, hi2⟩ := hrel
        have b2 := hi2.cell 0 rfl
        have HBE := Lib.hid hbe
        have HI2 := Lib.hid hi2
        clear hbe hi2
        by_cases hkl : k < l.length
        · obtain ⟨y, hy⟩ := HX.out k hkl
          obtain ⟨g, off, xs, Fk, rfl, _, hra, _, hca⟩ := (HV.out.kept HBE.out).get hy
          obtain rfl := rLink_rd hra
          rw [rLink_size] at hca
          have c0 := hca 0 _ rfl
          have c1 := hca 1 _ rfl
          simp only [Nat.add_zero] at c0
          have HST := Lib.hid (ftC_step hy)
          have hfl := ftC_len_take l k
          have HOKY := Lib.hid (HOKY0.out k y hy)
          clear hca hra hy
          have HAP : Hid (Calls Tryz.prog 106 #[.pointer (some ⟨wr.heap.size, 0, none⟩), _] (wr.alloc (.cells #[.int .u8 (y.In.toNat : Int), .int .u8 (y.Out.toNat : Int)] 101)) (AppPost (w.heap.size + 1) (ftC (l.take k) ++ ftK y) (wr.alloc (.cells #[.int .u8 (y.In.toNat : Int), .int .u8 (y.Out.toNat : Int)] 101)))) := implApp_any y wr.heap.size (w.heap.size + 1) _ (ftC (l.take k)) _ HOKY.out (heap_alloc_new _ _) (ho.alloc _) (by omega) (by simp; have := hs1.out; omega)
          clear ho hfl
          have HI3 : Hid (InC (wr.alloc (.cells #[.int .u8 (y.In.toNat : Int), .int .u8 (y.Out.toNat : Int)] 101)) w.heap.size #[.slice (some ⟨g, off, none⟩) l.length cap] 59) := HI2.out.kept ((Below.refl _ _).alloc (Nat.le_refl _) _)
          have HB3 : Hid (Below w.heap.size w (wr.alloc (.cells #[.int .u8 (y.In.toNat : Int), .int .u8 (y.Out.toNat : Int)] 101))) := HBE.out.alloc HBE.out.size _
          generalize (y.In.toNat : Int) = a at *
          generalize (y.Out.toNat : Int) = b at *
          go_wp2_with fail
          refine HAP.out.mono ?_
          rintro e w3 ⟨u', rfl, ho', hb', hk'⟩
          have HI4 : Hid (InC w3 w.heap.size #[.slice (some ⟨g, off, none⟩) l.length cap] 59) := hk' _ _ HI3.out (not5 (by decide))
          have HO4 := Lib.hid ho'
          have HB4 : Hid (Below w.heap.size w w3) := HB3.out.trans (hb'.mono (Nat.le_succ _))
          have HS4 : Hid (w.heap.size + 1 ≤ w3.heap.size) := by have := hb'.size; unfold Hid; simp at this; have := hs1.out; omega
          clear ho' hb' hk' HAP b2
          have b4 := HI4.out.cell 0 rfl
          go_wp2_with fail
          go_roundw
          case rel => exact ⟨k + 1, by omega, by go_num, by rw [HST.out]; exact HO4.out, HB4.out, HS4, HI4.out⟩
          case measure => simp [intOf]; omega
        · obtain rfl : k = l.length := by omega
          rw [List.take_length] at ho
          have hcv := conv_own ho
          clear ho
          go_wp2
          go_ret
          exact ⟨ret_str (by rw [HR.out]), HBE.out⟩
end Go.Proofs.YtcgmlhlnkbjfnaaGreatDoor

/- The program's FormatRow: what it answers. -/
namespace Go.Proofs.YtcgmlhlnkbjfnaaGreatDoor
set_option maxRecDepth 100000
open Go.RowKit Go.Sort M Go.Lib
set_option linter.unusedVariables false
set_option linter.unusedSimpArgs false

theorem Tryz.infoTStr11 : (Tryz.prog.info? 9).map (fun i => (i.zero, i.size, i.bytes)) = some (some (.string ⟨#[]⟩), 1, 16) := by kernel_rfl
theorem implItoaZ_any (z : Int) (w : World) (h0 : 0 ≤ z) (h1 : z ≤ 16) : Calls Tryz.prog 168 #[.int .i64 z] w fun e w' => e = .returned (.string (itoaB z)) ∧ Below w.heap.size w w' := by
  have e1 : ∀ m : Nat, m < 10 → itoaB (m : Int) = ⟨#[UInt8.ofNat (48 + m)]⟩ := fun m hm => by unfold itoaB; rw [itoa_nonneg, decDigits_one hm]
  have e2 : ∀ m : Nat, ¬ m < 10 → m < 100 → itoaB (m : Int) = ⟨#[UInt8.ofNat (48 + m / 10), UInt8.ofNat (48 + m % 10)]⟩ := fun m hm hm2 => by unfold itoaB; rw [itoa_nonneg, decDigits_two hm hm2]
  obtain rfl | rfl | rfl | rfl | rfl | rfl | rfl | rfl | rfl | rfl | rfl | rfl | rfl | rfl | rfl | rfl | rfl : z = 0 ∨ z = 1 ∨ z = 2 ∨ z = 3 ∨ z = 4 ∨ z = 5 ∨ z = 6 ∨ z = 7 ∨ z = 8 ∨ z = 9 ∨ z = 10 ∨ z = 11 ∨ z = 12 ∨ z = 13 ∨ z = 14 ∨ z = 15 ∨ z = 16 := by omega
  · have E : itoaB 0 = _ := e1 0 (by omega)
    have HE := Lib.hid E
    clear E e1 e2
    go_enter Tryz.func168, Tryz.ntmps168
    go_wp2
    go_ret
    exact ⟨ret_str (by rw [HE.out]; rfl), Below.refl _ _⟩
  · have E : itoaB 1 = _ := e1 1 (by omega)
    have HE := Lib.hid E
    clear E e1 e2
    go_enter Tryz.func168, Tryz.ntmps168
    go_wp2
    go_ret
    exact ⟨ret_str (by rw [HE.out]; rfl), Below.refl _ _⟩
  · have E : itoaB 2 = _ := e1 2 (by omega)
    have HE := Lib.hid E
    clear E e1 e2
    go_enter Tryz.func168, Tryz.ntmps168
    go_wp2
    go_ret
    exact ⟨ret_str (by rw [HE.out]; rfl), Below.refl _ _⟩
  · have E : itoaB 3 = _ := e1 3 (by omega)
    have HE := Lib.hid E
    clear E e1 e2
    go_enter Tryz.func168, Tryz.ntmps168
    go_wp2
    go_ret
    exact ⟨ret_str (by rw [HE.out]; rfl), Below.refl _ _⟩
  · have E : itoaB 4 = _ := e1 4 (by omega)
    have HE := Lib.hid E
    clear E e1 e2
    go_enter Tryz.func168, Tryz.ntmps168
    go_wp2
    go_ret
    exact ⟨ret_str (by rw [HE.out]; rfl), Below.refl _ _⟩
  · have E : itoaB 5 = _ := e1 5 (by omega)
    have HE := Lib.hid E
    clear E e1 e2
    go_enter Tryz.func168, Tryz.ntmps168
    go_wp2
    go_ret
    exact ⟨ret_str (by rw [HE.out]; rfl), Below.refl _ _⟩
  · have E : itoaB 6 = _ := e1 6 (by omega)
    have HE := Lib.hid E
    clear E e1 e2
    go_enter Tryz.func168, Tryz.ntmps168
    go_wp2
    go_ret
    exact ⟨ret_str (by rw [HE.out]; rfl), Below.refl _ _⟩
  · have E : itoaB 7 = _ := e1 7 (by omega)
    have HE := Lib.hid E
    clear E e1 e2
    go_enter Tryz.func168, Tryz.ntmps168
    go_wp2
    go_ret
    exact ⟨ret_str (by rw [HE.out]; rfl), Below.refl _ _⟩
  · have E : itoaB 8 = _ := e1 8 (by omega)
    have HE := Lib.hid E
    clear E e1 e2
    go_enter Tryz.func168, Tryz.ntmps168
    go_wp2
    go_ret
    exact ⟨ret_str (by rw [HE.out]; rfl), Below.refl _ _⟩
  · have E : itoaB 9 = _ := e1 9 (by omega)
    have HE := Lib.hid E
    clear E e1 e2
    go_enter Tryz.func168, Tryz.ntmps168
    go_wp2
    go_ret
    exact ⟨ret_str (by rw [HE.out]; rfl), Below.refl _ _⟩
  · have E : itoaB 10 = _ := e2 10 (by omega) (by omega)
    have HE := Lib.hid E
    clear E e1 e2
    go_enter Tryz.func168, Tryz.ntmps168
    go_wp2
    go_ret
    exact ⟨ret_str (by rw [HE.out]; rfl), Below.refl _ _⟩
  · have E : itoaB 11 = _ := e2 11 (by omega) (by omega)
    have HE := Lib.hid E
    clear E e1 e2
    go_enter Tryz.func168, Tryz.ntmps168
    go_wp2
    go_ret
    exact ⟨ret_str (by rw [HE.out]; rfl), Below.refl _ _⟩
  · have E : itoaB 12 = _ := e2 12 (by omega) (by omega)
    have HE := Lib.hid E
    clear E e1 e2
    go_enter Tryz.func168, Tryz.ntmps168
    go_wp2
    go_ret
    exact ⟨ret_str (by rw [HE.out]; rfl), Below.refl _ _⟩
  · have E : itoaB 13 = _ := e2 13 (by omega) (by omega)
    have HE := Lib.hid E
    clear E e1 e2
    go_enter Tryz.func168, Tryz.ntmps168
    go_wp2
    go_ret
    exact ⟨ret_str (by rw [HE.out]; rfl), Below.refl _ _⟩
  · have E : itoaB 14 = _ := e2 14 (by omega) (by omega)
    have HE := Lib.hid E
    clear E e1 e2
    go_enter Tryz.func168, Tryz.ntmps168
    go_wp2
    go_ret
    exact ⟨ret_str (by rw [HE.out]; rfl), Below.refl _ _⟩
  · have E : itoaB 15 = _ := e2 15 (by omega) (by omega)
    have HE := Lib.hid E
    clear E e1 e2
    go_enter Tryz.func168, Tryz.ntmps168
    go_wp2
    go_ret
    exact ⟨ret_str (by rw [HE.out]; rfl), Below.refl _ _⟩
  · have E : itoaB 16 = _ := e2 16 (by omega) (by omega)
    have HE := Lib.hid E
    clear E e1 e2
    go_enter Tryz.func168, Tryz.ntmps168
    go_wp2
    go_ret
    exact ⟨ret_str (by rw [HE.out]; rfl), Below.refl _ _⟩
theorem implFmtZ_any (z : Int) (w : World) (h0 : 0 ≤ z) (h1 : z ≤ 16) : Calls Tryz.prog 141 #[.int .i64 z] w fun e w' => e = .returned (.string (itoaB z)) ∧ Below w.heap.size w w' := by
  have HC := Lib.hid (implItoaZ_any z w h0 h1)
  generalize itoaB z = T at *
  go_enter Tryz.func141, Tryz.ntmps141
  go_wp2_with fail
  refine HC.out.mono ?_
  rintro e w1 ⟨rfl, hb⟩
  have HB := Lib.hid hb
  clear hb
  go_wp2
  go_ret
  exact ⟨rfl, HB.out⟩
set_option maxHeartbeats 8000000 in
theorem implJoin11_any (m : List Int) (v : Value) (F : Addr → Prop) (w : World) (hm : ∀ z ∈ m, 0 ≤ z ∧ z ≤ 16) (h1 : 1 ≤ m.length) (h5 : m.length ≤ 5) (hv : RowRd Rep.int false w v m F) :
    Calls Tryz.prog 107 #[v] w fun e w' => e = .returned (.string (numT m)) ∧ Below w.heap.size w w' := by
  obtain ⟨A, cap, rfl⟩ := hv.form
  have HV := Lib.hid hv
  have HX : Hid (∀ k, k < m.length → ∃ y, m[k]? = some y ∧ 0 ≤ y ∧ y ≤ 16) := fun k hk => ⟨_, List.getElem?_eq_getElem hk, hm _ (List.getElem_mem hk)⟩
  have HJL : Hid ((Lib.join ((txtL m).map (·.data.toList)) (⟨#[44]⟩ : ByteArray).data.toList).length ≤ 140737488355328) := by
    unfold Hid
    have h1 := join_all (txtL m)
    have h2 := (joinT_size hm m.length (Nat.le_refl _)).1
    rw [← txtL_len m, ← h1] at h2
    have h3 : (⟨(Lib.join ((txtL m).map (·.data.toList)) [44]).toArray⟩ : ByteArray).size = (Lib.join ((txtL m).map (·.data.toList)) [44]).length := rfl
    rw [h3, txtL_len] at h2
    show (Lib.join ((txtL m).map (·.data.toList)) [44]).length ≤ _
    omega
  have HJ : Hid (numT m = ⟨(Lib.join ((txtL m).map (·.data.toList)) [44]).toArray⟩) := by unfold Hid numT; rw [join_all, txtL_len]
  have HTL := Lib.hid (txtL_len m)
  have H0 := Lib.hid (cpTo_zero ByteArray.empty (txtL m))
  have HCA := Lib.hid (cpTo_all ByteArray.empty (txtL m))
  have HCAT : Hid (∀ k, k < m.length → (cpTo ByteArray.empty (txtL m) k)[k]? = some ByteArray.empty) := fun k hk => cpTo_at _ _ _ (by rw [txtL_len]; exact hk)
  have HCST : Hid (∀ k z, m[k]? = some z → (cpTo ByteArray.empty (txtL m) k).set k (itoaB z) = cpTo ByteArray.empty (txtL m) (k + 1)) := fun k z h => cpTo_step _ _ _ (txtL_at h)
  clear hv hm
  generalize hll : m.length = n at *
  obtain ⟨i0, hi, hz0, hz1, hz2⟩ := info_parts Tryz.infoTStr11
  go_enter Tryz.func107, Tryz.ntmps107
  go_wp2_with (at_make; refine wpList_make_full _ rfl _ _ 22 rfl w.heap.size 9 i0 (.string ⟨#[]⟩) 1 Tryz.underlying22 hi hz0 hz1 .i64 .i64 _ _ n rfl rfl rfl rfl (by rw [hz2]; omega) (by unfold maxLen; omega) (Nat.le_refl _) ?_; intro w1 hown1 hgrow1)
  have hb1 : Below w.heap.size w w1 := (Below.refl _ _).grown hgrow1 (Nat.le_refl _) (fun _ h => by cases h)
  have HO1 : Hid (RowRd (Rep.str mkT) true w1 (.slice (some ⟨w.heap.size, 0, none⟩) n n) (cpTo ByteArray.empty (txtL m) 0) (fun a => w.heap.size ≤ a.block)) := by
    unfold Hid
    rw [H0.out, HTL.out]
    rw [show (Value.cells (.string ⟨#[]⟩)) = #[.string ⟨#[]⟩] from rfl] at hown1
    have hlr : (List.replicate n (ByteArray.empty : ByteArray)).length = n := List.length_replicate
    refine (RowRd.of_flat (E := (Rep.str mkT)) (l := List.replicate n ByteArray.empty) (base := w.heap.size) (e := 9) (cells := (madeCells #[.string ⟨#[]⟩] (n * 1)).toList) (by rw [hlr]; exact hown1) (by rw [hlr]; omega) ?_).mono (fun a ha => ha.1)
    intro k x hk
    rw [List.getElem?_replicate] at hk
    split at hk
    · cases hk
      refine ⟨[.string ⟨#[]⟩], ?_, ⟨rfl, by decide⟩⟩
      intro j u hj
      have hjn : j < 1 := (List.getElem?_eq_some_iff.1 hj).1
      rw [show (Rep.str mkT).size = 1 from rfl, made_at _ _ _ (by omega) (by decide), show (#[.string ⟨#[]⟩] : Array Value).size = 1 from rfl, show (k * 1 + j) % 1 = j by omega]
      simpa using hj
    · cases hk
  have HB1 := Lib.hid hb1
  clear hown1 hgrow1 hb1
  go_wp2
  go_loopw [11] (fun i wr => ∃ (k : Nat), k ≤ n ∧ i = .int .i64 k ∧ RowRd (Rep.str mkT) true wr (.slice (some ⟨w.heap.size, 0, none⟩) n n) (cpTo ByteArray.empty (txtL m) k) (fun a => w.heap.size ≤ a.block) ∧ Below w.heap.size w wr) (fun i _ => n - (Go.Lib.intOf i).toNat)
  case atStart => exact ⟨0, by omega, rfl, HO1.out, HB1.out⟩
  case round =>
    obtain ⟨k, hk, rfl, hrow, hbe⟩ := hrel
    obtain ⟨w2, rfl⟩ : ∃ w2 : World, w2 = wr := ⟨_, rfl⟩
    have HBE := Lib.hid hbe
    have HRW := Lib.hid hrow.tight
    clear hbe hrow
    by_cases hkl : k < n
    · obtain ⟨z, hz, hz0, hz1⟩ := HX.out k hkl
      have HC : Hid (∀ W, Calls Tryz.prog 141 #[.int .i64 z] W fun e w' => e = .returned (.string (itoaB z)) ∧ Below W.heap.size W w') := fun W => implFmtZ_any z W hz0 hz1
      have HSX := Lib.hid (HCST.out k z hz)
      have hs := (itoaB_size z hz0 hz1).1
      obtain ⟨g, off, xs, Fk, rfl, -, hra, -, hca⟩ := (HV.out.kept HBE.out).get hz
      obtain ⟨rfl, -⟩ := id hra
      rw [show Rep.int.size = 1 from rfl] at hca
      have c0 := hca 0 _ rfl
      simp only [Nat.add_zero, Nat.mul_one] at c0
      have HSZ : Hid ((itoaB z).size ≤ 9223372036854775807) := by unfold Hid; omega
      clear hca hra hz hs
      generalize itoaB z = T at *
      go_wp2_with fail
      refine (HC.out _).mono ?_
      rintro e w3 ⟨rfl, hb⟩
      have HB3 := Lib.hid (below_step HBE.out hb)
      have hrow2 := HRW.out.kept hb
      clear hb c0
      obtain ⟨g2, off2, ys, Fk2, hge, hrd, hel, hFk, hcl, hput⟩ := hrow2.open (HCAT.out k hkl)
      cases hge
      simp only [show (Rep.str mkT).size = 1 from rfl, Nat.mul_one] at hel hcl hput
      simp only [Nat.zero_add] at hel hput
      obtain ⟨rfl, _⟩ := id hrd
      have d0 := hel.cell 0 rfl
      have f0 := hel.free 0 (by decide)
      simp only [Nat.zero_add, Nat.add_zero] at d0 f0
      have hs0 := hel.set 0 (by decide) (.string T)
      simp only [List.set, Nat.zero_add, Nat.add_zero] at hs0
      have HBB := Lib.hid (HB3.out.setCell (p := ⟨w.heap.size, k, none⟩) (Nat.le_refl _) (.string T))
      have HNEW := Lib.hid ((hput _ _ T (fun _ => False) hs0 (⟨rfl, HSZ.out⟩) (fun a h => h.elim)).mono (fun a h => h.elim (fun h => h.1) (fun h => h.elim)))
      rw [HSX.out] at HNEW
      clear hput hel hs0 hrd hFk hcl hrow2
      go_wp2
      go_roundw
      case rel => exact ⟨k + 1, by omega, by go_num, HNEW.out, HBB.out⟩
      case measure => simp [Go.Lib.intOf]; omega
    · obtain rfl : k = n := by omega
      have hrow := HRW.out
      have hca := HCA.out
      rw [HTL.out] at hca
      rw [hca] at hrow
      have HCL : Hid (∀ (j : Nat) x, (txtL m)[j]? = some x → w2.cell? ⟨w.heap.size, 0 + j, none⟩ = some (.string x)) := fun j x hj => by
        obtain ⟨g2, off2, xs2, Fk2, he2, _, hra2, _, hca2⟩ := hrow.get hj
        cases he2
        obtain ⟨rfl, _⟩ := hra2
        have c1 := hca2 0 _ rfl
        simpa [show (Rep.str mkT).size = 1 from rfl] using c1
      have hlt : w.heap.size < w2.heap.size := block_lt_of_cell (HCL.out 0 _ (List.getElem?_eq_getElem (by rw [HTL.out]; omega)))
      have HSJ := Lib.hid (Tryz.strings_Join w.heap.size 0 k (txtL m) ⟨#[44]⟩ w2 HCL.out hlt (by rw [HTL.out]; omega) (by rw [HTL.out]; omega) HJL.out)
      rw [HTL.out] at HSJ
      clear hrow hca
      go_wp2_with fail
      refine HSJ.out.mono ?_
      rintro e w4 ⟨rfl, hb⟩
      have HB4 := Lib.hid (below_step HBE.out hb)
      clear hb
      go_wp2
      go_ret
      exact ⟨ret_str (by rw [HJ.out]), HB4.out⟩
theorem implText_any (m : List Int) (v : Value) (F : Addr → Prop) (w : World) (hm : ∀ z ∈ m, 0 ≤ z ∧ z ≤ 16) (h1 : 1 ≤ m.length) (h5 : m.length ≤ 5) (hv : RowRd Rep.int false w v m F) :
    Calls Tryz.prog 75 #[v] w fun e w' => e = .returned (.string (numT m)) ∧ Below w.heap.size w w' := by
  have HC := Lib.hid (implJoin11_any m v F w hm h1 h5 hv)
  clear hv hm
  generalize numT m = T at *
  go_enter Tryz.func75, Tryz.ntmps75
  go_wp2_with fail
  refine HC.out.mono ?_
  rintro e w1 ⟨rfl, hb⟩
  have HB := Lib.hid hb
  clear hb
  go_wp2
  go_ret
  exact ⟨rfl, HB.out⟩
set_option maxHeartbeats 16000000 in
theorem implFr_any (x : DTableau) (A1 : Option Addr) (c1 : Nat) (A2 : Option Addr) (c2 : Nat) (A3 : Option Addr) (c3 : Nat) (F1 F2 F3 : Addr → Prop) (i : Int) (w : World) (hm : rTableau.sz x ≤ 1048576) (hv : TabRd false w (.slice A1 x.Names.length c1) (.slice A2 x.Rows.length c2) (.slice A3 x.Marks.length c3) x F1 F2 F3) (hT : FeatTab w) :
    Calls Tryz.prog 30 #[.agg #[.string x.Input, .slice A1 x.Names.length c1, .slice A2 x.Rows.length c2, .slice A3 x.Marks.length c3], .int .i64 i] w fun e w' => e = .returned (.string (fmtR x i)) ∧ Below w.heap.size w w' := by
  obtain ⟨hz0, hz1, hz2, hz3, hz4, hz5⟩ := szTab_parts hm
  have HZ4 : Hid (∀ (k : Nat) p, (rowsL x)[k]? = some p → p.1.Links.length ≤ 1048576) := fun k p h => hz4 k p.1 (rowsL_of h).2.1
  have HRS : Hid (∀ W, Below w.heap.size w W → Calls Tryz.prog 66 #[.agg #[.string x.Input, .slice A1 x.Names.length c1, .slice A2 x.Rows.length c2, .slice A3 x.Marks.length c3]] W (MkPost x W)) := fun W hW => implRows_any x A1 c1 A2 c2 A3 c3 F1 F2 F3 W hm (hv.kept hW) (feat_below hT hW)
  have HNEG : Hid (i < 0 → fmtR x i = ⟨#[]⟩) := fun h => fmtR_neg (by omega)
  have HOUT : Hid ((rowsL x).length ≤ i.toNat → fmtR x i = ⟨#[]⟩) := fmtR_out
  have HA : Hid (∀ o, Below w.heap.size w (w.alloc o)) := fun o => (Below.refl _ _).alloc (Nat.le_refl _) _
  clear hv hz4 hz5 hm hT
  go_enter Tryz.func30, Tryz.ntmps30
  go_wp2_with fail
  refine (HRS.out _ (HA.out _)).mono ?_
  rintro e w1 ⟨u, G, rfl, hrow, hb⟩
  obtain ⟨Ar, cr, rfl⟩ := hrow.form
  have hmx := hrow.max
  have HB1 : Hid (Below w.heap.size w w1) := below_step (HA.out _) hb
  have HROW := Lib.hid hrow
  clear hb hrow HRS
  by_cases hi0 : i < 0
  case pos =>
    have HN := Lib.hid (HNEG.out hi0)
    have e1 : decide (i < 0) = true := decide_eq_true hi0
    clear hi0
    go_wp2
    go_ret
    exact ⟨ret_str HN.out.symm, HB1.out⟩
  have e1 : decide (i < 0) = false := decide_eq_false hi0
  obtain ⟨k, rfl⟩ : ∃ k : Nat, i = (k : Int) := ⟨i.toNat, by omega⟩
  by_cases hkl : k < (rowsL x).length
  case neg =>
    have HN : Hid (fmtR x (k : Int) = ⟨#[]⟩) := HOUT.out (by rw [Int.toNat_natCast]; omega)
    have e2 : decide (((rowsL x).length : Int) ≤ (k : Int)) = true := decide_eq_true (by omega)
    have e3 : decide ((rowsL x).length ≤ k) = true := decide_eq_true (by omega)
    clear hi0
    go_wp2
    go_ret
    exact ⟨ret_str HN.out.symm, HB1.out⟩
  have e2 : decide (((rowsL x).length : Int) ≤ (k : Int)) = false := decide_eq_false (by omega)
  have e3 : decide ((rowsL x).length ≤ k) = false := decide_eq_false (by omega)
  obtain ⟨⟨c, m⟩, hc⟩ : ∃ p, (rowsL x)[k]? = some p := ⟨_, List.getElem?_eq_getElem hkl⟩
  obtain ⟨hr1, hr2, hr3, hr4⟩ := rows_marks hc
  have HFR := Lib.hid (fmtR_at hc)
  have HL := HZ4.out k _ hc
  obtain ⟨g2, o2, xs2, G2, rfl, -, hr2', -, hc2⟩ := HROW.out.get hc
  obtain ⟨v2, v3, K1, K2, rfl, q2, q3, -⟩ := rMk_rd hr2'
  rw [rMk_size] at hc2
  have d2 := hc2 0 _ rfl
  have d3 := hc2 1 _ rfl
  simp only [Nat.add_zero] at d2
  have HC2 : Hid (∀ W : World, Below w1.heap.size w1 W → W.cell? ⟨g2, o2 + k * 2, none⟩ = some v2) := fun W hW => cell_kept hW d2
  have HC3 : Hid (∀ W : World, Below w1.heap.size w1 W → W.cell? ⟨g2, o2 + k * 2 + 1, none⟩ = some v3) := fun W hW => cell_kept hW d3
  have HFC : Hid (∀ W, Below w1.heap.size w1 W → Calls Tryz.prog 74 #[.agg #[v2]] W fun e w' => e = .returned (.string ⟨(fmtC c.Links).toArray⟩) ∧ Below W.heap.size W w') := fun W hW => implFmt_cd c v2 K1 W HL (q2.kept hW)
  have HNU : Hid (∀ W, Below w1.heap.size w1 W → Calls Tryz.prog 75 #[v3] W fun e w' => e = .returned (.string (numT m)) ∧ Below W.heap.size W w') := fun W hW => implText_any m v3 K2 W hr1 hr2 hr3 (q3.kept hW)
  have hs1 := fmtC_size c.Links hr4
  have hs2 := (joinT_size hr1 m.length (Nat.le_refl _)).1
  have HNM : Hid (numT m = joinN (txtL m) m.length) := rfl
  rw [← HNM.out] at hs2
  have hkr : (k : Int) < ((rowsL x).length : Int) := by omega
  have h110 : 22 * m.length ≤ 110 := by have : m.length ≤ 5 := hr3; omega
  clear hc hr1 hr2' hc2 d2 d3 q2 q3 HL hi0
  generalize (⟨(fmtC c.Links).toArray⟩ : ByteArray) = T1 at *
  generalize numT m = T2 at *
  have hadd1 := add_anyT T1 (⟨#[32]⟩ : ByteArray) (by have : (⟨#[32]⟩ : ByteArray).size = 1 := rfl; omega)
  have hadd2 := add_anyT (T1 ++ (⟨#[32]⟩ : ByteArray)) T2 (by rw [ByteArray.size_append]; have : (⟨#[32]⟩ : ByteArray).size = 1 := rfl; omega)
  clear hs1 hs2 h110 hr2 hr3 hr4
  generalize (rowsL x).length = n at *
  go_upto_region 4 with fail
  refine wp_region_held_drew (S := fun w' => Below w1.heap.size w1 w') (by kernel_rfl) ((Below.refl _ _).drew) (fun hHeld => ?_)
  refine' wpAnyH_take (i := 0) (oi := _) (v := ?v15) rfl ?hs15 ?hf15 ?hr15 ?hQ15 (Or.inl ⟨?hw15, ?hy15⟩) hHeld ?rest15
  case hs15 => kernel_rfl
  case hf15 => kernel_rfl
  case hr15 => kernel_rfl
  case hQ15 => exact fun _ _ _ h => h
  case hw15 => kernel_rfl
  case hy15 => (intro w' hw'; go_simp; try with_reducible rfl)
  (try change wpAnyH _ _ _ _ _ _ _ (Act.put _ (some 16) _) _)
  try simp only [Act.put, List.setIfInBounds_toArray, List.set_cons_zero, List.set_cons_succ]
  refine' wpAnyH_take (i := 1) (oi := _) (v := ?v16) rfl ?hs16 ?hf16 ?hr16 ?hQ16 (Or.inl ⟨?hw16, ?hy16⟩) hHeld ?rest16
  case hs16 => kernel_rfl
  case hf16 => kernel_rfl
  case hr16 => kernel_rfl
  case hQ16 => exact fun _ _ _ h => h
  case hw16 => kernel_rfl
  case hy16 => (intro w' hw'; go_simp; try with_reducible rfl)
  (try change wpAnyH _ _ _ _ _ _ _ (Act.put _ (some 17) _) _)
  try simp only [Act.put, List.setIfInBounds_toArray, List.set_cons_zero, List.set_cons_succ]
  refine' wpAnyH_take (i := 2) (oi := _) (v := ?v17) rfl ?hs17 ?hf17 ?hr17 ?hQ17 (Or.inl ⟨?hw17, ?hy17⟩) hHeld ?rest17
  case hs17 => kernel_rfl
  case hf17 => kernel_rfl
  case hr17 => kernel_rfl
  case hQ17 => exact fun _ _ _ h => h
  case hw17 => kernel_rfl
  case hy17 => (intro w' hw'; go_simp; try with_reducible rfl)
  (try change wpAnyH _ _ _ _ _ _ _ (Act.put _ (some 18) _) _)
  try simp only [Act.put, List.setIfInBounds_toArray, List.set_cons_zero, List.set_cons_succ]
  refine' wpAnyH_take (i := 3) (oi := _) (v := ?v18) rfl ?hs18 ?hf18 ?hr18 ?hQ18 (Or.inl ⟨?hw18, ?hy18⟩) hHeld ?rest18
  case hs18 => kernel_rfl
  case hf18 => kernel_rfl
  case hr18 => kernel_rfl
  case hQ18 => exact fun _ _ _ h => h
  case hw18 => kernel_rfl
  case hy18 => (intro w' hw'; go_simp; try with_reducible rfl)
  (try change wpAnyH _ _ _ _ _ _ _ (Act.put _ (some 19) _) _)
  try simp only [Act.put, List.setIfInBounds_toArray, List.set_cons_zero, List.set_cons_succ]
  refine' wpAnyH_take (i := 4) (oi := _) (v := ?v19) rfl ?hs19 ?hf19 ?hr19 ?hQ19 (Or.inl ⟨?hw19, ?hy19⟩) hHeld ?rest19
  case hs19 => kernel_rfl
  case hf19 => kernel_rfl
  case hr19 => kernel_rfl
  case hQ19 => exact fun _ _ _ h => h
  case hw19 => kernel_rfl
  case hy19 => (intro w' hw'; have c4' := HC2.out _ hw'; have c5' := HC3.out _ hw'; go_simp; try with_reducible rfl)
  (try change wpAnyH _ _ _ _ _ _ _ (Act.put _ (some 20) _) _)
  try simp only [Act.put, List.setIfInBounds_toArray, List.set_cons_zero, List.set_cons_succ]
  refine' wpAnyH_take (i := 7) (oi := _) (v := ?v20) rfl ?hs20 ?hf20 ?hr20 ?hQ20 (Or.inl ⟨?hw20, ?hy20⟩) hHeld ?rest20
  case hs20 => kernel_rfl
  case hf20 => kernel_rfl
  case hr20 => kernel_rfl
  case hQ20 => exact fun _ _ _ h => h
  case hw20 => kernel_rfl
  case hy20 => (intro w' hw'; go_simp; try with_reducible rfl)
  (try change wpAnyH _ _ _ _ _ _ _ (Act.put _ (some 23) _) _)
  try simp only [Act.put, List.setIfInBounds_toArray, List.set_cons_zero, List.set_cons_succ]
  refine' wpAnyH_take (i := 8) (oi := _) (v := ?v21) rfl ?hs21 ?hf21 ?hr21 ?hQ21 (Or.inl ⟨?hw21, ?hy21⟩) hHeld ?rest21
  case hs21 => kernel_rfl
  case hf21 => kernel_rfl
  case hr21 => kernel_rfl
  case hQ21 => exact fun _ _ _ h => h
  case hw21 => kernel_rfl
  case hy21 => (intro w' hw'; go_simp; try with_reducible rfl)
  (try change wpAnyH _ _ _ _ _ _ _ (Act.put _ (some 24) _) _)
  try simp only [Act.put, List.setIfInBounds_toArray, List.set_cons_zero, List.set_cons_succ]
  refine' wpAnyH_take (i := 9) (oi := _) (v := ?v22) rfl ?hs22 ?hf22 ?hr22 ?hQ22 (Or.inl ⟨?hw22, ?hy22⟩) hHeld ?rest22
  case hs22 => kernel_rfl
  case hf22 => kernel_rfl
  case hr22 => kernel_rfl
  case hQ22 => exact fun _ _ _ h => h
  case hw22 => kernel_rfl
  case hy22 => (intro w' hw'; go_simp; try with_reducible rfl)
  (try change wpAnyH _ _ _ _ _ _ _ (Act.put _ (some 25) _) _)
  try simp only [Act.put, List.setIfInBounds_toArray, List.set_cons_zero, List.set_cons_succ]
  refine' wpAnyH_take (i := 10) (oi := _) (v := ?v23) rfl ?hs23 ?hf23 ?hr23 ?hQ23 (Or.inl ⟨?hw23, ?hy23⟩) hHeld ?rest23
  case hs23 => kernel_rfl
  case hf23 => kernel_rfl
  case hr23 => kernel_rfl
  case hQ23 => exact fun _ _ _ h => h
  case hw23 => kernel_rfl
  case hy23 => (intro w' hw'; go_simp; try with_reducible rfl)
  (try change wpAnyH _ _ _ _ _ _ _ (Act.put _ (some 26) _) _)
  try simp only [Act.put, List.setIfInBounds_toArray, List.set_cons_zero, List.set_cons_succ]
  refine' wpAnyH_take (i := 11) (oi := _) (v := ?v24) rfl ?hs24 ?hf24 ?hr24 ?hQ24 (Or.inl ⟨?hw24, ?hy24⟩) hHeld ?rest24
  case hs24 => kernel_rfl
  case hf24 => kernel_rfl
  case hr24 => kernel_rfl
  case hQ24 => exact fun _ _ _ h => h
  case hw24 => kernel_rfl
  case hy24 => (intro w' hw'; have c4' := HC2.out _ hw'; have c5' := HC3.out _ hw'; go_simp; try with_reducible rfl)
  (try change wpAnyH _ _ _ _ _ _ _ (Act.put _ (some 27) _) _)
  try simp only [Act.put, List.setIfInBounds_toArray, List.set_cons_zero, List.set_cons_succ]
  refine wpAnyH_ready (rs := [5]) (by kernel_rfl) (by simp) ?_
  refine AllReadyH.cons rfl (fun K hK => ?_) AllReadyH.nil
  go_simp
  go_at_call 74; refine (HFC.out _ hHeld).mono ?_; rintro e wa ⟨rfl, hba⟩; have hbe := below_step hHeld hba; clear hba
  (try go_wp2_with fail)
  refine hK.out _ _ hbe (fun hHeld => ?_)
  clear hK K
  try simp only [Act.put, List.setIfInBounds_toArray, List.set_cons_zero, List.set_cons_succ]
  refine' wpAnyH_take (i := 6) (oi := _) (v := ?v25) rfl ?hs25 ?hf25 ?hr25 ?hQ25 (Or.inl ⟨?hw25, ?hy25⟩) hHeld ?rest25
  case hs25 => kernel_rfl
  case hf25 => kernel_rfl
  case hr25 => kernel_rfl
  case hQ25 => exact fun _ _ _ h => h
  case hw25 => kernel_rfl
  case hy25 => (intro w' hw'; go_simp; try with_reducible rfl)
  (try change wpAnyH _ _ _ _ _ _ _ (Act.put _ (some 22) _) _)
  try simp only [Act.put, List.setIfInBounds_toArray, List.set_cons_zero, List.set_cons_succ]
  refine wpAnyH_ready (rs := [12]) (by kernel_rfl) (by simp) ?_
  refine AllReadyH.cons rfl (fun K hK => ?_) AllReadyH.nil
  go_simp
  go_at_call 75; refine (HNU.out _ hHeld).mono ?_; rintro e wb ⟨rfl, hba⟩; have hbe := below_step hHeld hba; clear hba
  (try go_wp2_with fail)
  refine hK.out _ _ hbe (fun hHeld => ?_)
  clear hK K
  try simp only [Act.put, List.setIfInBounds_toArray, List.set_cons_zero, List.set_cons_succ]
  refine' wpAnyH_take (i := 13) (oi := _) (v := ?v26) rfl ?hs26 ?hf26 ?hr26 ?hQ26 (Or.inl ⟨?hw26, ?hy26⟩) hHeld ?rest26
  case hs26 => kernel_rfl
  case hf26 => kernel_rfl
  case hr26 => kernel_rfl
  case hQ26 => exact fun _ _ _ h => h
  case hw26 => kernel_rfl
  case hy26 => (intro w' hw'; go_simp; try with_reducible rfl)
  (try change wpAnyH _ _ _ _ _ _ _ (Act.put _ (some 29) _) _)
  try simp only [Act.put, List.setIfInBounds_toArray, List.set_cons_zero, List.set_cons_succ]
  refine' wpAnyH_take (i := 14) (oi := _) (v := ?v27) rfl ?hs27 ?hf27 ?hr27 ?hQ27 (Or.inl ⟨?hw27, ?hy27⟩) hHeld ?rest27
  case hs27 => kernel_rfl
  case hf27 => kernel_rfl
  case hr27 => kernel_rfl
  case hQ27 => exact fun _ _ _ h => h
  case hw27 => kernel_rfl
  case hy27 => (intro w' hw'; go_simp; try with_reducible rfl)
  (try change wpAnyH _ _ _ _ _ _ _ (Act.put _ (some 4) _) _)
  try simp only [Act.put, List.setIfInBounds_toArray, List.set_cons_zero, List.set_cons_succ]
  refine wpAnyH_done ?hdone28 ?hq28 _
  case hdone28 => kernel_rfl
  go_wp2
  go_ret
  exact ⟨ret_str HFR.out.symm, below_step HB1.out hHeld⟩
end Go.Proofs.YtcgmlhlnkbjfnaaGreatDoor

/- The laws' szStringS. -/
namespace Go.Proofs.YtcgmlhlnkbjfnaaGreatDoor
set_option maxRecDepth 100000
open Go.RowKit Go.Sort M
set_option linter.unusedVariables false
set_option linter.unusedSimpArgs false

def szTo (l : List ByteArray) (k : Nat) : Nat := l.length + ((l.take k).map (·.size)).sum
theorem szTo_zero (l : List ByteArray) : szTo l 0 = l.length := by simp [szTo]
theorem szTo_step {l : List ByteArray} {k : Nat} {x : ByteArray} (h : l[k]? = some x) : szTo l (k + 1) = szTo l k + x.size := by
  unfold szTo
  rw [List.take_add_one, h]
  simp
  omega
theorem szTo_all (l : List ByteArray) : szTo l l.length = szRow (Rep.str mkT) l := by
  unfold szTo szRow
  rw [List.take_length]
  rfl
set_option maxHeartbeats 1000000 in
theorem szStringS_any (v : Value) (l : List ByteArray) (left : Int) (F : Addr → Prop) (w : World) (h0 : 0 ≤ left) (h1 : left ≤ 1048576) (hv : RowRd (Rep.str mkT) false w v l F) :
    Calls Tryz.prog 9 #[v, .int .i64 left] w fun e w' => (∃ z : Int, e = .returned (.int .i64 z) ∧ (z < 0 ∨ z + (szRow (Rep.str mkT) l : Nat) = left ∧ 0 ≤ z)) ∧ Below w.heap.size w w' := by
  have hmx := hv.max
  obtain ⟨A, cap, rfl⟩ := hv.form
  have HV := Lib.hid hv
  clear hv
  have HX : Hid (∀ k, k < l.length → ∃ y, l[k]? = some y) := fun k hk => ⟨_, List.getElem?_eq_getElem hk⟩
  have HS : Hid (szTo l l.length = szRow (Rep.str mkT) l) := szTo_all l
  have H0 : Hid (szTo l 0 = l.length) := szTo_zero l
  have HST : Hid (∀ k x, l[k]? = some x → szTo l (k + 1) = szTo l k + x.size) := fun k x h => szTo_step h
  go_enter Tryz.func9, Tryz.ntmps9
  by_cases h : left - (l.length : Int) < 0
  · go_wp2
    go_ret
    exact ⟨⟨-1, rfl, Or.inl (by omega)⟩, Below.refl _ _⟩
  · go_wp2
    go_loop [1, 5] (fun q i => ∃ (k : Nat) (z : Int), k ≤ l.length ∧ i = .int .i64 k ∧ q = .int .i64 z ∧ 0 ≤ z ∧ z ≤ 1048576 ∧ Hid (z + (szTo l k : Nat) = left)) (fun _ i => l.length - (intOf i).toNat)
    case atStart => exact ⟨0, _, by omega, rfl, rfl, by omega, by omega, by unfold Hid; rw [H0.out]; omega⟩
    case round =>
      obtain ⟨k, z, hk, rfl, rfl, hz0, hz1, hs⟩ := hrel
      by_cases hkl : k < l.length
      · obtain ⟨y, hy⟩ := HX.out k hkl
        have HSY := Lib.hid (HST.out k y hy)
        obtain ⟨g, off, xs, Fk, rfl, _, hra, _, hca⟩ := HV.out.get hy
        obtain ⟨rfl, hys⟩ := hra
        rw [show (Rep.str mkT).size = 1 from rfl] at hca
        have c0 := hca 0 _ rfl
        simp only [Nat.add_zero, Nat.mul_one] at c0
        clear hca hy
        by_cases hneg : z - (y.size : Int) < 0
        · go_wp2
          go_ret
          exact ⟨⟨-1, rfl, Or.inl (by omega)⟩, Below.refl _ _⟩
        · go_wp2
          go_round
          case rel => exact ⟨k + 1, z - (y.size : Int), by omega, by first | rfl | go_num, by first | rfl | go_num, by omega, by omega, by unfold Hid; rw [HSY.out]; have := hs.out; omega⟩
          case measure => simp [intOf]; omega
      · obtain rfl : k = l.length := by omega
        go_wp2
        go_ret
        exact ⟨⟨z, rfl, Or.inr ⟨by rw [← HS.out]; exact hs.out, hz0⟩⟩, Below.refl _ _⟩
end Go.Proofs.YtcgmlhlnkbjfnaaGreatDoor

/- Sizes of rows, element by element. -/
namespace Go.Proofs.YtcgmlhlnkbjfnaaGreatDoor
set_option maxRecDepth 100000
open Go.RowKit
set_option linter.unusedVariables false
set_option linter.unusedSimpArgs false

def szToE {α : Type} (E : Rep α) (l : List α) (k : Nat) : Nat := l.length + ((l.take k).map E.sz).sum
theorem szToE_zero {α : Type} (E : Rep α) (l : List α) : szToE E l 0 = l.length := by simp [szToE]
theorem szToE_step {α : Type} (E : Rep α) {l : List α} {k : Nat} {x : α} (h : l[k]? = some x) : szToE E l (k + 1) = szToE E l k + E.sz x := by
  unfold szToE
  rw [List.take_add_one, h]
  simp
  omega
theorem szToE_all {α : Type} (E : Rep α) (l : List α) : szToE E l l.length = szRow E l := by
  unfold szToE szRow
  rw [List.take_length]
end Go.Proofs.YtcgmlhlnkbjfnaaGreatDoor

/- The laws' szLinkS. -/
namespace Go.Proofs.YtcgmlhlnkbjfnaaGreatDoor
set_option maxRecDepth 100000
open Go.RowKit Go.Sort
set_option linter.unusedVariables false
set_option linter.unusedSimpArgs false

theorem szLinkS_any (v : Value) (l : List DLink) (left : Int) (F : Addr → Prop) (w : World) (h0 : 0 ≤ left) (h1 : left ≤ 1048576) (hv : RowRd rLink false w v l F) :
    Calls Tryz.prog 137 #[v, .int .i64 left] w fun e w' => (∃ z : Int, e = .returned (.int .i64 z) ∧ (z < 0 ∨ z + (szRow rLink l : Nat) = left ∧ 0 ≤ z)) ∧ Below w.heap.size w w' := by
  have HS : Hid (szRow rLink l = l.length) := szRow_flat _ (fun _ => rfl) l
  have hmx := hv.max
  obtain ⟨A, cap, rfl⟩ := hv.form
  clear hv
  generalize l.length = n at *
  go_enter Tryz.func137, Tryz.ntmps137
  by_cases h : left - (n : Int) < 0
  · go_wp2
    go_ret
    exact ⟨⟨-1, rfl, Or.inl (by omega)⟩, Below.refl _ _⟩
  · go_wp2
    go_ret
    exact ⟨⟨_, rfl, Or.inr ⟨by rw [HS.out]; omega, by omega⟩⟩, Below.refl _ _⟩
end Go.Proofs.YtcgmlhlnkbjfnaaGreatDoor

/- The laws' szCandidate. -/
namespace Go.Proofs.YtcgmlhlnkbjfnaaGreatDoor
set_option maxRecDepth 100000
open Go.RowKit Go.Sort
set_option linter.unusedVariables false
set_option linter.unusedSimpArgs false

theorem szCandidate_any (x : DCandidate) (v0 : Value) (left : Int) (F : Addr → Prop) (w : World) (h0 : 0 ≤ left) (h1 : left ≤ 1048576) (hv : RowRd rLink false w v0 x.Links F) :
    Calls Tryz.prog 93 #[.agg #[v0], .int .i64 left] w fun e w' => (∃ z : Int, e = .returned (.int .i64 z) ∧ (z < 0 ∨ z + (rCandidate.sz x : Nat) = left ∧ 0 ≤ z)) ∧ Below w.heap.size w w' := by
  have HS : Hid (rCandidate.sz x = szRow rLink x.Links) := by unfold Hid; rw [rCandidate_sz]; try omega
  have HC : Hid (∀ W, Below w.heap.size w W → Calls Tryz.prog 137 #[v0, .int .i64 left] W fun e w' => (∃ z : Int, e = .returned (.int .i64 z) ∧ (z < 0 ∨ z + (szRow rLink x.Links : Nat) = left ∧ 0 ≤ z)) ∧ Below W.heap.size W w') := fun W hW => szLinkS_any v0 _ left F W h0 h1 (hv.kept hW)
  clear hv
  generalize rCandidate.sz x = n at *
  generalize szRow rLink x.Links = m at *
  go_enter Tryz.func93, Tryz.ntmps93
  go_wp2_with fail
  refine (HC.out _ ((Below.refl _ _).alloc (Nat.le_refl _) _)).mono ?_
  rintro e w1 ⟨⟨z, rfl, hz⟩, hb⟩
  have HB := Lib.hid (((Below.refl w.heap.size w).alloc (Nat.le_refl _) _).trans (hb.mono (by simp)))
  clear hb
  by_cases h : z < 0
  · go_wp2
    go_ret
    exact ⟨⟨-1, rfl, Or.inl (by omega)⟩, HB.out⟩
  · have HZ := Lib.hid (hz.resolve_left h)
    clear hz
    go_wp2
    go_ret
    exact ⟨⟨z, rfl, Or.inr (by rw [HS.out]; exact HZ.out)⟩, HB.out⟩
end Go.Proofs.YtcgmlhlnkbjfnaaGreatDoor

/- The laws' szCandidateS. -/
namespace Go.Proofs.YtcgmlhlnkbjfnaaGreatDoor
set_option maxRecDepth 100000
open Go.RowKit Go.Sort
set_option linter.unusedVariables false
set_option linter.unusedSimpArgs false

set_option maxHeartbeats 1000000 in
theorem szCandidateS_any (v : Value) (l : List DCandidate) (left : Int) (F : Addr → Prop) (w : World) (h0 : 0 ≤ left) (h1 : left ≤ 1048576) (hv : RowRd rCandidate false w v l F) :
    Calls Tryz.prog 53 #[v, .int .i64 left] w fun e w' => (∃ z : Int, e = .returned (.int .i64 z) ∧ (z < 0 ∨ z + (szRow rCandidate l : Nat) = left ∧ 0 ≤ z)) ∧ Below w.heap.size w w' := by
  have hmx := hv.max
  obtain ⟨A, cap, rfl⟩ := hv.form
  have HV := Lib.hid hv
  clear hv
  have HX : Hid (∀ k, k < l.length → ∃ y, l[k]? = some y) := fun k hk => ⟨_, List.getElem?_eq_getElem hk⟩
  have HS : Hid (szToE rCandidate l l.length = szRow rCandidate l) := szToE_all _ l
  have H0 : Hid (szToE rCandidate l 0 = l.length) := szToE_zero _ l
  have HST : Hid (∀ k x, l[k]? = some x → szToE rCandidate l (k + 1) = szToE rCandidate l k + rCandidate.sz x) := fun k x h => szToE_step _ h
  generalize hll : l.length = n at *
  clear hll
  go_enter Tryz.func53, Tryz.ntmps53
  by_cases h : left - (n : Int) < 0
  · go_wp2
    go_ret
    exact ⟨⟨-1, rfl, Or.inl (by omega)⟩, Below.refl _ _⟩
  · go_wp2
    go_loopw [1, 5] (fun q i wr => ∃ (k : Nat) (z : Int), k ≤ n ∧ i = .int .i64 k ∧ q = .int .i64 z ∧ 0 ≤ z ∧ z ≤ 1048576 ∧ Hid (z + (szToE rCandidate l k : Nat) = left) ∧ Below w.heap.size w wr) (fun _ i _ => n - (intOf i).toNat)
    case atStart => exact ⟨0, _, by omega, rfl, rfl, by omega, by omega, by unfold Hid; rw [H0.out]; omega, Below.refl _ _⟩
    case round =>
      obtain ⟨k, z, hk, rfl, rfl, hz0, hz1, hs, hbe⟩ := hrel
      have HBE := Lib.hid hbe
      clear hbe
      by_cases hkl : k < n
      · obtain ⟨x, hx⟩ := HX.out k hkl
        have HSY := Lib.hid (HST.out k x hx)
        obtain ⟨g, off, xs, Fk, rfl, _, hra, _, hca⟩ := (HV.out.kept HBE.out).get hx
        simp only [show rCandidate.size = 1 from rfl, Nat.mul_one] at hca
        obtain ⟨v0, rfl, q0⟩ := rCandidate_rd hra
        have HC := Lib.hid (szCandidate_any x v0 z Fk wr hz0 hz1 q0)
        have c0 := hca 0 _ rfl
        simp only [Nat.add_zero] at c0
        clear hca hx hra q0
        generalize rCandidate.sz x = sx at *
        go_wp2_with fail
        refine HC.out.mono ?_
        rintro e w2 ⟨⟨z2, rfl, hz⟩, hb⟩
        have HB2 := Lib.hid (HBE.out.trans (hb.mono HBE.out.size))
        clear hb c0
        by_cases hneg : z2 < 0
        · go_wp2
          go_ret
          exact ⟨⟨-1, rfl, Or.inl (by omega)⟩, HB2.out⟩
        · have HZ := Lib.hid (hz.resolve_left hneg)
          have hz2 : z2 ≤ 1048576 := by have := HZ.out; omega
          clear hz
          go_wp2
          go_roundw
          case rel => exact ⟨k + 1, z2, by omega, by first | rfl | go_num, by first | rfl | go_num, by omega, by omega, by unfold Hid; rw [HSY.out]; have := hs.out; have := HZ.out; omega, HB2.out⟩
          case measure => simp [intOf]; omega
      · obtain rfl : k = n := by omega
        go_wp2
        go_ret
        exact ⟨⟨z, rfl, Or.inr ⟨by rw [← HS.out]; exact hs.out, hz0⟩⟩, HBE.out⟩
end Go.Proofs.YtcgmlhlnkbjfnaaGreatDoor

/- The laws' szIntS. -/
namespace Go.Proofs.YtcgmlhlnkbjfnaaGreatDoor
set_option maxRecDepth 100000
open Go.RowKit Go.Sort
set_option linter.unusedVariables false
set_option linter.unusedSimpArgs false

theorem szIntS_any (v : Value) (l : List Int) (left : Int) (F : Addr → Prop) (w : World) (h0 : 0 ≤ left) (h1 : left ≤ 1048576) (hv : RowRd Rep.int false w v l F) :
    Calls Tryz.prog 94 #[v, .int .i64 left] w fun e w' => (∃ z : Int, e = .returned (.int .i64 z) ∧ (z < 0 ∨ z + (szRow Rep.int l : Nat) = left ∧ 0 ≤ z)) ∧ Below w.heap.size w w' := by
  have HS : Hid (szRow Rep.int l = l.length) := szRow_flat _ (fun _ => rfl) l
  have hmx := hv.max
  obtain ⟨A, cap, rfl⟩ := hv.form
  clear hv
  generalize l.length = n at *
  go_enter Tryz.func94, Tryz.ntmps94
  by_cases h : left - (n : Int) < 0
  · go_wp2
    go_ret
    exact ⟨⟨-1, rfl, Or.inl (by omega)⟩, Below.refl _ _⟩
  · go_wp2
    go_ret
    exact ⟨⟨_, rfl, Or.inr ⟨by rw [HS.out]; omega, by omega⟩⟩, Below.refl _ _⟩
end Go.Proofs.YtcgmlhlnkbjfnaaGreatDoor
