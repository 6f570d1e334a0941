/- The model's FaithfulCandidate: what it answers; appending a link to a row of the call's own. -/
import Derived.Test.YtlekcnddejnejaaIk3
import Derived.Test.YtlekcnddejnejaaN1
import Derived.Deep.RegionLaw
import Derived.Deep.RegionWith
namespace Go.Proofs.Ytlekcnddejnejaa
open Go.RowKit M
set_option linter.unusedVariables false
set_option linter.unusedSimpArgs false

theorem own_not {w : World} {base n z : Nat} {e : TypeId} {u : Value} {c : List Value} (h : w.ownsRow base e z u n c) {g : Nat} {cs : Array Value} {t : TypeId} (hg : InC w g cs t) (ht : t ≠ e) : u.ownBlock ≠ some g := by
  rcases h.2 with ⟨rfl, _⟩ | ⟨g', cap, cur, rfl, _, hg', _⟩
  · simp [Value.ownBlock]
  · intro e
    have : g' = g := by simpa [Value.ownBlock] using e
    subst this
    unfold InC at hg
    rw [hg'] at hg
    injection (Option.some.inj hg) with _ e2 _
    exact ht e2.symm
theorem own_form {w : World} {base n z : Nat} {e : TypeId} {u : Value} {c : List Value} (h : w.ownsRow base e z u n c) : ∃ A cap, u = .slice A n cap := by
  rcases h.2 with ⟨rfl, rfl⟩ | ⟨g', cap, cur, rfl, _⟩
  · exact ⟨_, _, rfl⟩
  · exact ⟨_, _, rfl⟩
theorem own_keep {w w' : World} {base n z : Nat} {e : TypeId} {u : Value} {c : List Value} (h : w.ownsRow base e z u n c) (hb : Below w.heap.size w w') : w'.ownsRow base e z u n c := by
  refine ⟨h.1, ?_⟩
  rcases h.2 with hn | ⟨g, cap, cur, e, hg0, hg, rest⟩
  · exact Or.inl hn
  · exact Or.inr ⟨g, cap, cur, e, hg0, (hb.block g (lt_of_block hg)).trans hg, rest⟩
theorem own_set {w : World} {base n z : Nat} {e : TypeId} {u : Value} {c : List Value} (h : w.ownsRow base e z u n c) {p : Addr} (hp : p.block < base) (x : Value) : (w.setCell p x).ownsRow base e z u n c := by
  refine ⟨h.1, ?_⟩
  rcases h.2 with hn | ⟨g, cap, cur, e, hg0, hg, rest⟩
  · exact Or.inl hn
  · exact Or.inr ⟨g, cap, cur, e, hg0, (heap_setCell_other w p g x (by omega)).trans hg, rest⟩
theorem cell_pair_new (w : World) (x y : Value) (t : TypeId) : ∀ j u, [x, y][j]? = some u → (w.alloc (.cells #[x, y] t)).cell? ((⟨w.heap.size, 0, none⟩ : Addr).add j) = some u := cells_new w [x, y] t
theorem run_append_link (w : World) (ty : TypeId) (base : Nat) (v : Value) (n : Nat) (l : List Value) (hown : w.ownsRow base 42 2 v n l) (a b : Int) (hn : n ≤ 2000000) (hbase : base ≤ w.heap.size) :
    ∃ v' w', (Builtin.append_ #[27, 27] ty #[v, .slice (some ⟨w.heap.size, 0, none⟩) 1 1]).run Try.prog (w.alloc (.cells #[.int .u8 a, .int .u8 b] 42)) = .ok v' w' ∧
      w'.ownsRow base 42 2 v' (n + 1) (l ++ [.int .u8 a, .int .u8 b]) ∧ Below base w w' ∧ (∀ g cs t, t ≠ 42 → InC w g cs t → InC w' g cs t) := by
  obtain ⟨i0, hi, hz0, hz1, hz2⟩ := info_parts Try.infoTLink
  obtain ⟨v', w', hr, h1, h2, _, h4⟩ := run_append_own_at (P := Try.prog) (w.alloc (.cells #[.int .u8 a, .int .u8 b] 42)) base 27 ty 42 i0 (.agg #[.int .u8 0, .int .u8 0]) 2 2 Try.underlying27 hi hz0 hz1 hz2 rfl (by decide) v n l (hown.alloc _) ⟨w.heap.size, 0, none⟩ 1 1 [.int .u8 a, .int .u8 b] rfl (cell_pair_new _ _ _ _)
    (fun u hu => by simp at hu; rcases hu with rfl | rfl <;> rfl) (by unfold maxLen; omega) (by omega) (by simp; omega)
  refine ⟨v', w', hr, h1, ((Below.refl base w).alloc hbase _).grown h2 (by simp; omega) (fun q hq => (hown.lt q hq).1), fun g cs t ht hg => ?_⟩
  exact ((h2.block g (by simp; have := hg.lt; omega) (fun e => own_not hown hg ht e.symm)).trans (Below.heap_alloc w _ g hg.lt)).trans hg
theorem step_append_link {ops : Array Oper} {o : Oper} {act : Act} {K : Act → World → Prop} {Q : Exit → Act → World → Prop} {E : Prop} (w : World) (hgd : o.guard = none) (s x : Operand)
    (ho : o.op = .call { callee := .builtin .append, args := #[s, x], argTypes := #[27, 27] })
    (base : Nat) (v : Value) (n : Nat) (l : List Value) (hown : w.ownsRow base 42 2 v n l) (a b : Int)
    (nb : Nat) (hnb : nb = w.heap.size) (hn : n ≤ 2000000) (hbase : base ≤ w.heap.size) (hs : act.eval s = v) (hx : act.eval x = .slice (some ⟨nb, 0, none⟩) 1 1)
    (h : ∀ v' w', w'.ownsRow base 42 2 v' (n + 1) (l ++ [.int .u8 a, .int .u8 b]) → Below base w w' → (∀ g cs t, t ≠ 42 → InC w g cs t → InC w' g cs t) → K (act.put o.dst v') w') :
    if Region.wanted o (yielded ops act.tmps) = true then Oper.wp Try.prog o act (w.alloc (.cells #[.int .u8 a, .int .u8 b] 42)) K Q else E := by
  have hw : Region.wanted o (yielded ops act.tmps) = true := by simp [Region.wanted, hgd]
  rw [if_pos hw]
  subst hnb
  obtain ⟨v', w', hr, h1, h2, h3⟩ := run_append_link w o.type base v n l hown a b hn hbase
  unfold Oper.wp execOp
  simp only [ho, resolve, invoke, builtin, Sem.run_bind, Sem.run_pure, Result.andThen_ok, List.map_toArray, List.map_cons, List.map_nil, hs, hx, hr]
  exact h v' w' h1 h2 h3
theorem step_append_link_drew {ops : Array Oper} {o : Oper} {act : Act} {K : Act → World → Prop} {Q : Exit → Act → World → Prop} {E : Prop} (w : World) (hgd : o.guard = none) (s x : Operand)
    (ho : o.op = .call { callee := .builtin .append, args := #[s, x], argTypes := #[27, 27] })
    (base : Nat) (v : Value) (n : Nat) (l : List Value) (hown : w.ownsRow base 42 2 v n l) (a b : Int)
    (nb : Nat) (hnb : nb = w.heap.size) (hn : n ≤ 2000000) (hbase : base ≤ w.heap.size) (hs : act.eval s = v) (hx : act.eval x = .slice (some ⟨nb, 0, none⟩) 1 1)
    (h : ∀ v' w', w'.ownsRow base 42 2 v' (n + 1) (l ++ [.int .u8 a, .int .u8 b]) → Below base w w' → (∀ g cs t, t ≠ 42 → InC w g cs t → InC w' g cs t) → K (act.put o.dst v') w') :
    if Region.wanted o (yielded ops act.tmps) = true then Oper.wp Try.prog o act ((w.alloc (.cells #[.int .u8 a, .int .u8 b] 42)).drew) K Q else E :=
  step_append_link w.drew hgd s x ho base v n l (own_keep hown ⟨rfl, rfl, rfl, Nat.le_refl _, fun _ _ => rfl⟩) a b nb hnb hn hbase hs hx fun v' w' h1 h2 h3 => h v' w' h1 ⟨h2.os, h2.tape, h2.output, h2.size, h2.block⟩ h3
theorem wpList_append_link {ops : Array Oper} {rest : List Oper} {o : Oper} {act : Act} {Q : Exit → Act → World → Prop} (w : World) (hgd : o.guard = none) (s x : Operand)
    (ho : o.op = .call { callee := .builtin .append, args := #[s, x], argTypes := #[27, 27] })
    (base : Nat) (v : Value) (n : Nat) (l : List Value) (hown : w.ownsRow base 42 2 v n l) (a b : Int)
    (nb : Nat) (hnb : nb = w.heap.size) (hn : n ≤ 2000000) (hbase : base ≤ w.heap.size) (hs : act.eval s = v) (hx : act.eval x = .slice (some ⟨nb, 0, none⟩) 1 1)
    (h : ∀ v' w', w'.ownsRow base 42 2 v' (n + 1) (l ++ [.int .u8 a, .int .u8 b]) → Below base w w' → (∀ g cs t, t ≠ 42 → InC w g cs t → InC w' g cs t) → wpList Try.prog ops Q rest (act.put o.dst v') w') :
    wpList Try.prog ops Q (o :: rest) act (w.alloc (.cells #[.int .u8 a, .int .u8 b] 42)) := by
  refine wpList_plain hgd fun K hK => ?_
  subst hnb
  obtain ⟨v', w', hr, h1, h2, h3⟩ := run_append_link w o.type base v n l hown a b hn hbase
  unfold Oper.wp execOp
  simp only [ho, resolve, invoke, builtin, Sem.run_bind, Sem.run_pure, Result.andThen_ok, List.map_toArray, List.map_cons, List.map_nil, hs, hx, hr]
  exact hK _ _ (h v' w' h1 h2 h3)
/-- A row of links of the call's own, as data. -/
theorem own_links {w : World} {base : Nat} {v : Value} {ls : List DLink} (h : w.ownsRow base 42 2 v ls.length (ls.flatMap lkC)) (hm : ls.length ≤ 2000000) : RowRd rLink true w v ls (fun a => base ≤ a.block) :=
  (RowRd.of_flat (E := rLink) h (by omega) (fun k x hk => ⟨lkC x, fun j u hj => by rw [rLink_size]; exact lkC_at ls k hk j u hj, rLink_mk⟩)).mono (fun a ha => ha.1)
theorem faith_cells (s : ByteArray) (k : Nat) (h : k < s.size) : (faith (s.data.toList.take (k + 1))).flatMap lkC = (faith (s.data.toList.take k)).flatMap lkC ++ [.int .u8 (s[k].toNat : Int), .int .u8 (s[k].toNat : Int)] := by
  rw [faith_step s k h, List.flatMap_append]; rfl
set_option maxHeartbeats 4000000 in
theorem specFaith_any (s : ByteArray) (w : World) (hs : s.size ≤ 1048576) :
    Calls Try.prog 22 #[.string s] w (CdPost (faC s) (isFm s) w) := by
  have HFM : Hid (∀ W, Calls Try.prog 35 #[.string s] W fun e w' => e = .returned (.bool (isFm s)) ∧ W = w') := fun W => specFm_any s W (by unfold maxLen; omega)
  have HFC : Hid (faC s = if isFm s then faith s.data.toList else []) := rfl
  have HSZ : Hid (isFm s = true → s.size ≤ 8) := isFm_size
  generalize faC s = r at *
  have HP : Hid (∀ u w', RowRd rLink true w' u r (fun a => w.heap.size ≤ a.block) → Below w.heap.size w w' → CdPost r (isFm s) w (.returned (.tuple #[.agg #[u], .bool (isFm s)])) w') := fun u w' h1 h2 => ⟨u, rfl, h1, h2⟩
  generalize isFm s = b at *
  go_enter Try.func22, Try.ntmps22
  go_wp2_with fail
  go_loopw [5] (fun i wr => ∃ (k : Nat) (v : Value), k ≤ s.size ∧ i = .int .i64 k ∧ Hid (b = false → k = 0) ∧ wr.ownsRow (w.heap.size + 2) 42 2 v k ((faith (s.data.toList.take k)).flatMap lkC) ∧ InC wr w.heap.size #[.slice none 0 0] 29 ∧ InC wr (w.heap.size + 1) #[v] 29 ∧ Below w.heap.size w wr ∧ Hid (w.heap.size + 2 ≤ wr.heap.size)) (fun i _ => s.size - (intOf i).toNat)
  case atStart => exact ⟨0, .slice none 0 0, by omega, rfl, fun _ => rfl, World.ownsRow_nil _ _ _ _, box1 _ _ _, box2 _ _ _, ((Below.refl _ _).alloc (Nat.le_refl _) _).alloc (by simp) _, by unfold Hid; simp⟩
  case round =>
    obtain ⟨k, v, hk, rfl, hbk, ho, hbx, hby, hbe, hsz⟩ := hrel
    obtain ⟨A, cap, rfl⟩ := own_form ho
    have c1 := hby.cell 0 rfl
    have c1a : ∀ o, (wr.alloc o).cell? ⟨w.heap.size + 1, 0, none⟩ = some (.slice A k cap) := fun o => (hby.kept ((Below.refl _ _).alloc (Nat.le_refl _) o)).cell 0 rfl
    have f1 := hby.free 0
    have x1 := hbx.cell 0 rfl
    have y1 := hbx.free 0
    have HO := Lib.hid ho
    have HBX := Lib.hid hbx
    have HBY := Lib.hid hby
    have HBE := Lib.hid hbe
    clear ho hbx hby hbe
    by_cases hkl : k < s.size ∧ b = true
    · obtain ⟨hkl, rfl⟩ := hkl
      have h8 := HSZ.out rfl
      have HCL := Lib.hid (faith_cells s k hkl)
      have HK2 : Hid (k ≤ 2000000) := by unfold Hid; omega
      go_wp2_with fail
      refine (HFM.out _).mono ?_
      rintro e w2 ⟨rfl, rfl⟩
      go_wp2_with fail
      go_region_law (refine step_append_link_drew wr rfl (.tmp 18) (.tmp 26) rfl (w.heap.size + 2) (.slice A k cap) k _ HO.out (s[k].toNat : Int) (s[k].toNat : Int) wr.heap.size rfl HK2.out hsz.out (by simp [Act.eval]) (by simp [Act.eval]) ?_; intro v' w' h1 h2 h3; obtain ⟨A2, cap2, rfl⟩ := own_form h1; have hx2 := h3 _ _ _ (by decide) HBX.out; have hy2 := h3 _ _ _ (by decide) HBY.out; have c2 := hy2.cell 0 rfl; have f2 := hy2.free 0; have HO2 := Lib.hid h1; have HX2 := Lib.hid hx2; have HY2 := Lib.hid hy2; have HB2 : Hid (Below w.heap.size w w') := HBE.out.trans (h2.mono (by omega)); have HS2 : Hid (w.heap.size + 2 ≤ w'.heap.size) := Nat.le_trans hsz.out h2.size; clear h1 h2 h3 hx2 hy2)
      all_goals
        go_wp2
        go_roundw
        case rel => exact ⟨k + 1, .slice A2 (k + 1) cap2, by omega, by go_num, fun h => (by cases h), by rw [HCL.out]; exact own_set HO2.out (Nat.lt_succ_self _) _, InC.other HX2.out (by simp) _, HY2.out.put 0 _, HB2.out.setCell (by simp) _, by unfold Hid; have := HS2.out; simpa using this⟩
        case measure => simp [intOf]; omega
    · by_cases hkl2 : k < s.size
      · have hb : b = false := by cases b; rfl; exact absurd ⟨hkl2, rfl⟩ hkl
        subst hb
        obtain rfl : k = 0 := hbk.out rfl
        have HR : Hid (r = []) := HFC.out
        have hr := HR.out
        subst hr
        have HROW : Hid (RowRd rLink true wr (.slice A 0 cap) [] (fun a => w.heap.size + 2 ≤ a.block)) := own_links (ls := []) HO.out (by simp)
        go_wp2_with fail
        refine (HFM.out _).mono ?_
        rintro e w2 ⟨rfl, rfl⟩
        go_wp2_with fail
        go_region_with (go_at_call 35; refine (HFM.out _).mono ?_; rintro e w' ⟨rfl, rfl⟩)
        all_goals
          go_wp2
          (try simp only [Exit.inBlock, Exit.then])
          refine bodyPost_ret (results_cell_rt rfl _ _ w.heap.size _ _ _ _ rfl (HBX.out.put 0 _) Try.underlying29 rfl infoCd1) rfl ?_
          exact HP.out _ _ (((HROW.out.kept (Below.refl _ _).drew).apart (Unch.set (F := fun a => a.block = w.heap.size) rfl _) (fun a ha => by have h1 : w.heap.size + 2 ≤ a.block := ha; show ¬ a.block = w.heap.size; omega)).mono (fun a ha => by have h1 : w.heap.size + 2 ≤ a.block := ha; omega)) ((Below6.drew HBE.out).setCell (Nat.le_refl _) _)
      · obtain rfl : k = s.size := by omega
        have htk : s.data.toList.take s.size = s.data.toList := List.take_of_length_le (by simp)
        have hlen := faith_len s s.size (Nat.le_refl _)
        rw [htk] at hlen
        have HROW : Hid (RowRd rLink true wr (.slice A s.size cap) (faith s.data.toList) (fun a => w.heap.size + 2 ≤ a.block)) := by
          have h1 := HO.out
          rw [htk] at h1
          have h2 : wr.ownsRow (w.heap.size + 2) 42 2 (.slice A s.size cap) (faith s.data.toList).length ((faith s.data.toList).flatMap lkC) := by rw [hlen]; exact h1
          exact own_links h2 (by omega)
        have HROW2 : Hid (RowRd rLink true wr (.slice A s.size cap) r (fun a => w.heap.size + 2 ≤ a.block)) := by
          unfold Hid
          cases b
          · have h0 : s.size = 0 := hbk.out rfl
            have h1 : r = [] := HFC.out
            have h2 : s.data.toList = [] := by apply List.eq_nil_of_length_eq_zero; simpa using h0
            rw [h1]
            have h3 := HROW.out
            rwa [h2] at h3
          · have h1 : r = faith s.data.toList := HFC.out
            rw [h1]; exact HROW.out
        clear HROW htk hlen
        go_wp2_with fail
        go_region_with (go_at_call 35; refine (HFM.out _).mono ?_; rintro e w' ⟨rfl, rfl⟩)
        all_goals
          go_wp2
          (try simp only [Exit.inBlock, Exit.then])
          refine bodyPost_ret (results_cell_rt rfl _ _ w.heap.size _ _ _ _ rfl (HBX.out.put 0 _) Try.underlying29 rfl infoCd1) rfl ?_
          exact HP.out _ _ (((HROW2.out.kept (Below.refl _ _).drew).apart (Unch.set (F := fun a => a.block = w.heap.size) rfl _) (fun a ha => by have h1 : w.heap.size + 2 ≤ a.block := ha; show ¬ a.block = w.heap.size; omega)).mono (fun a ha => by have h1 : w.heap.size + 2 ≤ a.block := ha; omega)) ((Below6.drew HBE.out).setCell (Nat.le_refl _) _)
end Go.Proofs.Ytlekcnddejnejaa
