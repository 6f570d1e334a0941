/- Merged: Vj10 AppS Ms10 Mt10 In10 AppI Pf10 Ct11 Tf11. -/
import Derived.Test.YtcgmlhlnkbjfnaaGreatDoorQ6
import Derived.Test.YtcgmlhlnkbjfnaaGreatDoorQ7
import Derived.Test.YtcgmlhlnkbjfnaaGreatDoorRows
import Derived.WalkKit
import Derived.Outline
import Derived.Maps.AppendAt
import Derived.Lib.Hide
import Derived.Laws.Rows
import Derived.Test.YtcgmlhlnkbjfnaaGreatDoorQ3
import Derived.Test.YtcgmlhlnkbjfnaaGreatDoorQ1
import Derived.Test.YtcgmlhlnkbjfnaaGreatDoorQ2
import Derived.Lib.QuietBelow
import Derived.BigRegion
import Derived.BigQuiet
import Derived.Deep.RegionHeld3
import Derived.Deep.RegionWith
import Derived.Deep.DeepCutAuto
import Derived.Test.YtcgmlhlnkbjfnaaGreatDoorQ4
import Derived.Laws.EntriesVeiled
import Derived.Test.YtcgmlhlnkbjfnaaGreatDoorQ5
/- The program's counts: method values, look-ups, what is called at each. -/
namespace Go.Proofs.YtcgmlhlnkbjfnaaGreatDoor
set_option maxRecDepth 100000
open Go.RowKit M
set_option linter.unusedVariables false
set_option linter.unusedSimpArgs false

/-- A method value bound to a count of forms. -/
theorem ofOut_any (q : Nat) (n : Int) (x : DCandidate) (v : Value) (F : Addr → Prop) (w : World) (hl : x.Links.length ≤ 1048576) (hv : RowRd rLink false w v x.Links F)
    (he : ∀ args w', (callFunc q args).run Tryz.prog w' = .ok (.enter q args) w') (hC : ∀ W, Below w.heap.size w W → Calls Tryz.prog q #[.string (outT x.Links)] W fun e w' => e = .returned (.int .i64 n) ∧ Below W.heap.size W w') :
    Calls Tryz.prog 123 #[.func (.func q) #[] #[], .agg #[v]] w fun e w' => e = .returned (.int .i64 n) ∧ Below w.heap.size w w' := by
  have HS1 : Hid (∀ W, Below w.heap.size w W → Calls Tryz.prog 67 #[.agg #[v]] W fun e w' => e = .returned (.string (outT x.Links)) ∧ Below W.heap.size W w') := fun W hW => implOutput_any x _ F W hl (hv.kept hW)
  have HE := Lib.hid he
  have HC := Lib.hid hC
  obtain ⟨A, cap, rfl⟩ := hv.form
  clear hv he hC
  generalize outT x.Links = T at *
  have HA : Hid (∀ o, Below w.heap.size w (w.alloc o)) := fun o => (Below.refl _ _).alloc (Nat.le_refl _) _
  go_enter Tryz.func123, Tryz.ntmps123
  go_wp2_with fail
  refine (HS1.out _ (HA.out _)).mono ?_
  rintro e w2 ⟨rfl, hb⟩
  have HB : Hid (Below w.heap.size w w2) := below_step (HA.out _) hb
  clear hb
  go_wp2_with fail
  rw [HE.out, Oper.upon_enter]
  refine (HC.out _ HB.out).mono ?_
  rintro e w3 ⟨rfl, hb⟩
  have HB3 : Hid (Below w.heap.size w w3) := below_step HB.out hb
  clear hb
  go_wp2
  go_ret
  exact ⟨rfl, HB3.out⟩
/-- What is called at the j-th value. -/
def entF (j : Nat) : Nat := if j < 6 then 123 else cidN j
def entA (j : Nat) (v : Value) : Array Value := if j < 6 then #[.func (.func (cidN j)) #[] #[], .agg #[v]] else #[.agg #[v]]
theorem fnV_any (j : Nat) (hj : j < 10) (x : DCandidate) (A : Option Addr) (cap : Nat) (F : Addr → Prop) (w : World) (hl : x.Links.length ≤ 1048576) (hcap : x.Links.length ≤ cap) (hv : RowRd rLink false w (.slice A x.Links.length cap) x.Links F) (hT : FeatTab w) :
    Calls Tryz.prog (entF j) (entA j (.slice A x.Links.length cap)) w fun e w' => e = .returned (.int .i64 (cntN j x.Links)) ∧ Below w.heap.size w w' := by
  have hsz := outT_size x.Links
  have hmx : (outT x.Links).size ≤ maxLen := by unfold maxLen; omega
  obtain rfl | rfl | rfl | rfl | rfl | rfl | rfl | rfl | rfl | rfl : j = 0 ∨ j = 1 ∨ j = 2 ∨ j = 3 ∨ j = 4 ∨ j = 5 ∨ j = 6 ∨ j = 7 ∨ j = 8 ∨ j = 9 := by omega
  · exact ofOut_any 122 _ x _ F w hl hv (fun args w' => enters_of Tryz.func122 (by kernel_rfl) rfl args w') (fun W hW => implOns_any _ W hmx (feat_below hT hW))
  · exact ofOut_any 124 _ x _ F w hl hv (fun args w' => enters_of Tryz.func124 (by kernel_rfl) rfl args w') (fun W hW => implCod_any _ W hmx (feat_below hT hW))
  · exact ofOut_any 125 _ x _ F w hl hv (fun args w' => enters_of Tryz.func125 (by kernel_rfl) rfl args w') (fun W hW => implClu_any _ W hmx (feat_below hT hW))
  · exact ofOut_any 126 _ x _ F w hl hv (fun args w' => enters_of Tryz.func126 (by kernel_rfl) rfl args w') (fun W hW => implVoi_any _ W hmx (feat_below hT hW))
  · exact ofOut_any 127 _ x _ F w hl hv (fun args w' => enters_of Tryz.func127 (by kernel_rfl) rfl args w') (fun W hW => implFin_any _ W hmx (feat_below hT hW))
  · exact ofOut_any 128 _ x _ F w hl hv (fun args w' => enters_of Tryz.func128 (by kernel_rfl) rfl args w') (fun W hW => implNas_any _ W hmx (feat_below hT hW))
  · exact implDeleted_any x _ F w hl hv
  · exact implInserted_any x _ F w hl hv
  · exact implVoiceChanged_any x _ F w hl hv
  · exact implBreaks_any x A cap F w hl hcap hv
theorem Tryz.zeroFn (w : World) : (zeroValue 81).run Tryz.prog w = .ok .nilFunc w := by kernel_rfl
/-- What a look-up in the map gives. -/
theorem look_counts (w : World) (b : Nat) (nm : ByteArray) (hs : nm.size ≤ maxLen) (h : w.ownsMap Tryz.prog 9 fR b 10 (dputN 10)) :
    ∃ u, Sem.run Tryz.prog (Instr.lookup 97 (.map (some b)) (.string nm) true) w = .ok (.tuple #[u, .bool (decide (nix nm < 10))]) w ∧ (nix nm < 10 → u = fnV (nix nm)) := by
  obtain ⟨zd, zp, hz⟩ : ∃ zd zp, fR Value.nilFunc = some (zd, zp) := ⟨_, _, rfl⟩
  obtain ⟨u, ps, hrun, hR⟩ := h.look_ok Tryz.strKeyed Tryz.underlying97 (Tryz.zeroFn w) hz (WideMaps.keyOf_string_mk Tryz.underlying9 hs)
  have hd := dput_at nm zd 10 (Nat.le_refl _)
  have h2 := hd.2
  unfold klN at h2
  rw [h2] at hrun
  refine ⟨u, hrun, fun hlt => ?_⟩
  have h1 := hd.1
  rw [if_pos hlt] at h1
  unfold klN at h1
  have hR2 : fR u = some (codeN (nix nm), ps) := hR.trans (congrArg (fun d => some (d, ps)) h1)
  exact fR_inv hlt hR2
theorem look_plain (w : World) (b : Nat) (nm : ByteArray) (hs : nm.size ≤ maxLen) (h : w.ownsMap Tryz.prog 9 fR b 10 (dputN 10)) (hlt : nix nm < 10) :
    Sem.run Tryz.prog (Instr.lookup 97 (.map (some b)) (.string nm) false) w = .ok (fnV (nix nm)) w := by
  obtain ⟨zd, zp, hz⟩ : ∃ zd zp, fR Value.nilFunc = some (zd, zp) := ⟨_, _, rfl⟩
  obtain ⟨u, ps, hrun, hR⟩ := h.lookup Tryz.strKeyed Tryz.underlying97 (Tryz.zeroFn w) hz (WideMaps.keyOf_string_mk Tryz.underlying9 hs)
  have hd := dput_at nm zd 10 (Nat.le_refl _)
  have h1 := hd.1
  rw [if_pos hlt] at h1
  unfold klN at h1
  have hR2 : fR u = some (codeN (nix nm), ps) := hR.trans (congrArg (fun d => some (d, ps)) h1)
  rw [← fR_inv hlt hR2]
  exact hrun
end Go.Proofs.YtcgmlhlnkbjfnaaGreatDoor

/- Appending one text to a row of texts that the call made: a law for the walk; rows of texts read place by place. -/
namespace Go.Proofs.YtcgmlhlnkbjfnaaGreatDoor
set_option maxRecDepth 100000
open Go.RowKit
def cellsS (l : List ByteArray) : List Value := l.map fun z => .string z
theorem cellsS_len (l : List ByteArray) : (cellsS l).length = l.length := by simp [cellsS]
theorem cellsS_append (a b : List ByteArray) : cellsS (a ++ b) = cellsS a ++ cellsS b := by simp [cellsS]
theorem cellsS_at (l : List ByteArray) (k : Nat) (h : k < l.length) : (cellsS l)[k]? = some (.string (l.getD k ByteArray.empty)) := by
  unfold cellsS; rw [List.getElem?_map, List.getElem?_eq_getElem h]; simp [h]
theorem Tryz.info9s : (Tryz.prog.info? 9).map (fun i => (i.zero, i.size, i.bytes)) = some (some (.string ⟨#[]⟩), 1, 16) := by kernel_rfl
theorem wpList_append_str {ops : Array Oper} {rest : List Oper} {o : Oper} {a : Act} {Q : Exit → Act → World → Prop} (w : World) (hgd : o.guard = none) (s x : Operand)
    (ho : o.op = .call { callee := .builtin .append, args := #[s, x], argTypes := #[22, 22] })
    (base : Nat) (v : Value) (n : Nat) (l : List ByteArray) (hs : a.eval s = v) (hown : w.ownsRow base 9 1 v n (cellsS l)) (b : ByteArray)
    (hx : a.eval x = .slice (some ⟨w.heap.size, 0, none⟩) 1 1) (hn : n ≤ 1000000000) (hbase : base ≤ w.heap.size)
    (h : ∀ v' w', w'.ownsRow base 9 1 v' (n + 1) (cellsS (l ++ [b])) → Below base w w' → wpList Tryz.prog ops Q rest (a.put o.dst v') w') :
    wpList Tryz.prog ops Q (o :: rest) a (w.alloc (.cells #[.string b] 9)) := by
  obtain ⟨i0, hi, hz0, hz1, hz2⟩ := info_parts Tryz.info9s
  refine wpList_append_own (w.alloc (.cells #[.string b] 9)) hgd s x 22 ho base 9 i0 (.string ⟨#[]⟩) 1 16 Tryz.underlying22 hi hz0 hz1 hz2 rfl (by decide) v n (cellsS l) hs (hown.alloc _) ⟨w.heap.size, 0, none⟩ 1 1 [.string b] hx rfl (cell_one_new _ _ _)
    (fun u hu => by simp at hu; subst hu; rfl) (by unfold maxLen; omega) (by omega) (by simp; omega) ?_
  intro v' w' h1 h2 _
  refine h v' w' (by rw [cellsS_append]; exact h1) ?_
  exact ((Below.refl base w).alloc hbase _).grown h2 (by simp; omega) (fun q hq => (hown.lt q hq).1)
/-- The same as one step of a region that draws its order. -/
theorem step_append_str {ops : Array Oper} {o : Oper} {a : Act} {K : Act → World → Prop} {Q : Exit → Act → World → Prop} {E : Prop} (w : World) (hgd : o.guard = none) (s x : Operand)
    (ho : o.op = .call { callee := .builtin .append, args := #[s, x], argTypes := #[22, 22] })
    (base : Nat) (v : Value) (n : Nat) (l : List ByteArray) (hs : a.eval s = v) (hown : w.ownsRow base 9 1 v n (cellsS l)) (b : ByteArray)
    (hx : a.eval x = .slice (some ⟨w.heap.size, 0, none⟩) 1 1) (hn : n ≤ 1000000000) (hbase : base ≤ w.heap.size)
    (h : ∀ v' w', w'.ownsRow base 9 1 v' (n + 1) (cellsS (l ++ [b])) → Below base w w' → K (a.put o.dst v') w') :
    if Region.wanted o (yielded ops a.tmps) = true then Oper.wp Tryz.prog o a (w.alloc (.cells #[.string b] 9)) K Q else E := by
  have hw : Region.wanted o (yielded ops a.tmps) = true := by simp [Region.wanted, hgd]
  rw [if_pos hw]
  obtain ⟨i0, hi, hz0, hz1, hz2⟩ := info_parts Tryz.info9s
  refine wp_append_own (w.alloc (.cells #[.string b] 9)) s x 22 ho base 9 i0 (.string ⟨#[]⟩) 1 16 Tryz.underlying22 hi hz0 hz1 hz2 rfl (by decide) v n (cellsS l) hs (hown.alloc _) ⟨w.heap.size, 0, none⟩ 1 1 [.string b] hx rfl (cell_one_new _ _ _)
    (fun u hu => by simp at hu; subst hu; rfl) (by unfold maxLen; omega) (by omega) (by simp; omega) ?_
  intro v' w' h1 h2 _
  refine h v' w' (by rw [cellsS_append]; exact h1) ?_
  exact ((Below.refl base w).alloc hbase _).grown h2 (by simp; omega) (fun q hq => (hown.lt q hq).1)
theorem step_append_str_drew {ops : Array Oper} {o : Oper} {a : Act} {K : Act → World → Prop} {Q : Exit → Act → World → Prop} {E : Prop} (w : World) (hgd : o.guard = none) (s x : Operand)
    (ho : o.op = .call { callee := .builtin .append, args := #[s, x], argTypes := #[22, 22] })
    (base : Nat) (v : Value) (n : Nat) (l : List ByteArray) (hown : w.ownsRow base 9 1 v n (cellsS l)) (b : ByteArray) (hn : n ≤ 1000000000) (hbase : base ≤ w.heap.size)
    (hs : a.eval s = v) (hx : a.eval x = .slice (some ⟨w.heap.size, 0, none⟩) 1 1)
    (h : ∀ v' w', w'.ownsRow base 9 1 v' (n + 1) (cellsS (l ++ [b])) → Below base w w' → K (a.put o.dst v') w') :
    if Region.wanted o (yielded ops a.tmps) = true then Oper.wp Tryz.prog o a ((w.alloc (.cells #[.string b] 9)).drew) K Q else E :=
  step_append_str w.drew hgd s x ho base v n l hs hown.drew b hx hn hbase fun v' w' h1 h2 => h v' w' h1 ⟨h2.os, h2.tape, h2.output, h2.size, h2.block⟩
theorem str_read {w : World} {base : Nat} {v : Value} {l : List ByteArray} (h : w.ownsRow base 9 1 v l.length (cellsS l)) :
    ∃ A cap, v = .slice A l.length cap ∧ ∀ k, k < l.length → ∃ g, A = some ⟨g, 0, none⟩ ∧ w.cell? ⟨g, k, none⟩ = some (.string (l.getD k ByteArray.empty)) := by
  have hh := h
  rcases h.2 with ⟨rfl, hn⟩ | ⟨g, cap, cur, rfl, _⟩
  · exact ⟨none, 0, by rw [hn], fun k hk => by omega⟩
  · refine ⟨some ⟨g, 0, none⟩, cap, rfl, fun k hk => ⟨g, rfl, ?_⟩⟩
    have hc : (cellsS l).length = l.length := cellsS_len l
    rw [hh.cellAt k (by omega), cellsS_at l k hk]
theorem str_form {w : World} {base : Nat} {v : Value} {n : Nat} {xs : List Value} (h : w.ownsRow base 9 1 v n xs) (hn : 0 < n) : ∃ g cap, v = .slice (some ⟨g, 0, none⟩) n cap ∧ base ≤ g := by
  rcases h.2 with ⟨rfl, h0⟩ | ⟨g, cap, cur, rfl, hb, _⟩
  · omega
  · exact ⟨g, cap, rfl, hb⟩
/-- A new empty row of texts. -/
theorem str_empty (w : World) : (w.alloc (.cells #[] 9)).ownsRow w.heap.size 9 1 (.slice (some ⟨w.heap.size, 0, none⟩) 0 0) ([] : List ByteArray).length (cellsS []) :=
  ⟨rfl, Or.inr ⟨w.heap.size, 0, #[], rfl, Nat.le_refl _, heap_alloc_new _ _, Nat.le_refl _, Nat.zero_le _, rfl, rfl⟩⟩
/-- A new row of one text. -/
theorem str_one (w : World) (b : ByteArray) : (w.alloc (.cells #[.string b] 9)).ownsRow w.heap.size 9 1 (.slice (some ⟨w.heap.size, 0, none⟩) 1 1) ([b] : List ByteArray).length (cellsS [b]) :=
  ⟨rfl, Or.inr ⟨w.heap.size, 1, #[.string b], rfl, Nat.le_refl _, heap_alloc_new _ _, Nat.le_refl _, by unfold maxLen; omega, rfl, rfl⟩⟩
/-- It answers with a row of its own that holds these texts. -/
def StrsPost (l : List ByteArray) (w : World) (e : Ending) (w' : World) : Prop := ∃ v, e = .returned v ∧ w'.ownsRow w.heap.size 9 1 v l.length (cellsS l) ∧ Below w.heap.size w w'
end Go.Proofs.YtcgmlhlnkbjfnaaGreatDoor

/- Names of constraints: the model's ConstraintNames, l3Has, IsMarkedness: what they answer. -/
namespace Go.Proofs.YtcgmlhlnkbjfnaaGreatDoor
set_option maxRecDepth 100000
open Go.RowKit Go.Sort M
set_option linter.unusedVariables false
set_option linter.unusedSimpArgs false

theorem toList_inj10 {a b : ByteArray} (h : a.toList = b.toList) : a = b := by
  rw [Lib.toList_data, Lib.toList_data] at h
  apply ByteArray.ext
  exact Array.toList_inj.1 h
theorem RowRd.of_strs {w : World} {base : Nat} {v : Value} {l : List ByteArray} (m : Nat → ByteArray) (h : w.ownsRow base 9 1 v l.length (cellsS l)) (hm : l.length ≤ 9223372036854775807) (hz : ∀ z ∈ l, z.size ≤ 9223372036854775807) : RowRd (Rep.str m) true w v l (fun a => base ≤ a.block ∧ a.block < w.heap.size) :=
  RowRd.of_flat (E := Rep.str m) h hm fun k x hk => ⟨[.string x], fun j u hj => by
    match j, hj with
    | 0, hj =>
      simp at hj
      subst hj
      have hkl := (List.getElem?_eq_some_iff.1 hk).1
      rw [show (Rep.str m).size = 1 from rfl, Nat.mul_one, Nat.add_zero, cellsS_at l k hkl, List.getD_eq_getElem?_getD, hk]
      rfl, rfl, hz x (List.mem_of_getElem? hk)⟩
/-- A new row of these texts. -/
theorem str_new (w : World) (l : List ByteArray) (n : Nat) (cs : Array Value) (hn : l.length = n) (hc : cs.toList = cellsS l) (hm : n ≤ 1000000) : (w.alloc (.cells cs 9)).ownsRow w.heap.size 9 1 (.slice (some ⟨w.heap.size, 0, none⟩) n n) l.length (cellsS l) := by
  subst hn
  have hs : cs.size = l.length := by rw [← Array.length_toList, hc, cellsS_len]
  exact ⟨by rw [cellsS_len, Nat.mul_one], Or.inr ⟨w.heap.size, l.length, cs, rfl, Nat.le_refl _, heap_alloc_new _ _, Nat.le_refl _, by unfold maxLen; omega, by rw [hs, Nat.mul_one], by rw [hc, Nat.mul_one, ← cellsS_len l, List.take_length]⟩⟩
/-- The ten names in a row of one's own. -/
def NmPost (w : World) (e : Ending) (w' : World) : Prop := ∃ g cap, e = .returned (.slice (some ⟨g, 0, none⟩) 10 cap) ∧ 10 ≤ cap ∧ cap ≤ 1000000 ∧ w.heap.size ≤ g ∧ w'.ownsRow w.heap.size 9 1 (.slice (some ⟨g, 0, none⟩) 10 cap) namesB.length (cellsS namesB) ∧ Below w.heap.size w w'
theorem names_short : ∀ z ∈ namesB, z.size ≤ 9223372036854775807 := fun z hz => by
  obtain ⟨k, hk, rfl⟩ := List.getElem_of_mem hz
  have := name_size (hasB_yes (List.getElem?_eq_getElem hk))
  omega
theorem specNames_any (w : World) : Calls Tryz.prog 80 #[] w (NmPost w) := by
  go_enter Tryz.func80, Tryz.ntmps80
  go_wp2
  go_ret
  exact ⟨_, _, rfl, Nat.le_refl _, by omega, Nat.le_refl _, str_new w namesB 10 _ rfl rfl (by omega), (Below.refl _ _).alloc (Nat.le_refl _) _⟩
/-- Some places of a row, one after the other. -/
theorem RowRd.part {α : Type} {E : Rep α} {w : World} {g off n cap : Nat} {l : List α} {F : Addr → Prop} (h : RowRd E false w (.slice (some ⟨g, off, none⟩) n cap) l F) (f e c : Nat) (he : e ≤ l.length) (hc : e - f ≤ c) :
    RowRd E false w (.slice (some ⟨g, off + f * E.size, none⟩) (e - f) c) ((l.take e).drop f) F := by
  have hm := h.max
  obtain ⟨A', cap', Fk, hv, _, hr⟩ := h
  cases hv
  have hlen : ((l.take e).drop f).length = e - f := by rw [List.length_drop, List.length_take]; omega
  refine ⟨some ⟨g, off + f * E.size, none⟩, c, fun k => Fk (f + k), by rw [hlen], ⟨by rw [hlen]; omega, (fun h => by cases h), by rw [hlen]; exact hc⟩, fun k x hk => ?_⟩
  have hk1 : k < e - f := by rw [← hlen]; exact (List.getElem?_eq_some_iff.1 hk).1
  rw [List.getElem?_drop, List.getElem?_take, if_pos (by omega)] at hk
  obtain ⟨g2, off2, xs, ha, h1, h2, h3, h4⟩ := hr (f + k) x hk
  cases ha
  refine ⟨g, off + f * E.size, xs, rfl, h1, h2, fun j u hj => ?_, fun h => by cases h⟩
  have h5 := h3 j u hj
  rw [Nat.add_mul, ← Nat.add_assoc] at h5
  exact ⟨h5.1, h5.2.1, fun h => by cases h⟩
/-- The first places of a row. -/
theorem RowRd.head {α : Type} {E : Rep α} {w : World} {g off n cap : Nat} {l : List α} {F : Addr → Prop} (h : RowRd E false w (.slice (some ⟨g, off, none⟩) n cap) l F) (e c : Nat) (he : e ≤ l.length) (hc : e ≤ c := by omega) :
    RowRd E false w (.slice (some ⟨g, off, none⟩) e c) (l.take e) F := by
  have := h.part 0 e c he (by omega)
  simpa using this
set_option maxHeartbeats 1000000 in
theorem specHasN_any (m : Nat → ByteArray) (l : List ByteArray) (v : Value) (F : Addr → Prop) (x : ByteArray) (w : World) (hl : l.length ≤ 1000000000) (hv : RowRd (Rep.str m) false w v l F) :
    Calls Tryz.prog 79 #[v, .string x] w fun e w' => e = .returned (.bool (hasB l x)) ∧ w = w' := by
  obtain ⟨A, cap, rfl⟩ := hv.form
  have HV := Lib.hid hv
  clear hv
  have HX : Hid (∀ k, k < l.length → ∃ y, l[k]? = some y) := fun k hk => ⟨_, List.getElem?_eq_getElem hk⟩
  go_enter Tryz.func79, Tryz.ntmps79
  go_wp2
  go_loop [5] (fun i => ∃ (k : Nat), k ≤ l.length ∧ i = .int .i64 k ∧ Hid (∀ (j : Nat) (y : ByteArray), j < k → l[j]? = some y → ¬ y = x)) (fun i => l.length - (intOf i).toNat)
  case atStart => exact ⟨0, by omega, rfl, fun j y hj => by omega⟩
  case round =>
    obtain ⟨k, hk, rfl, hall⟩ := hrel
    by_cases hkl : k < l.length
    · obtain ⟨y, hy⟩ := HX.out k hkl
      obtain ⟨g, off, xs, Fk, rfl, _, hra, _, hca⟩ := HV.out.get hy
      obtain ⟨rfl, _⟩ := hra
      rw [show (Rep.str m).size = 1 from rfl] at hca
      have c0 := hca 0 _ rfl
      simp only [Nat.add_zero, Nat.mul_one] at c0
      clear hca
      have HY := Lib.hid hy
      clear hy
      go_wp2
      · have hq : (y.toList == x.toList) = true := by assumption
        have he : y = x := by
          rw [beq_iff_eq] at hq
          exact toList_inj10 hq
        have HN : Hid (hasB l x = true) := he ▸ hasB_yes HY.out
        go_ret
        exact ⟨by first | exact ret_bool HN.out | exact ret_bool HN.out.symm, rfl⟩
      · rename_i hq
        have he : ¬ y = x := fun e => by rw [e] at hq; simp at hq
        go_round
        case rel =>
          refine ⟨k + 1, by omega, by go_num, fun j z hj hz => ?_⟩
          by_cases e : j = k
          · subst e; rw [HY.out] at hz; cases hz; exact he
          · exact hall.out j z (by omega) hz
        case measure => simp [intOf]; omega
    · obtain rfl : k = l.length := by omega
      have HN : Hid (hasB l x = false) := hasB_no fun j y hj => hall.out j y (List.getElem?_eq_some_iff.1 hj).1 hj
      clear hall
      go_wp2
      go_ret
      exact ⟨by first | exact ret_bool HN.out | exact ret_bool HN.out.symm, rfl⟩
end Go.Proofs.YtcgmlhlnkbjfnaaGreatDoor

/- Names of constraints: the model's AreConstraints: what it answers. -/
namespace Go.Proofs.YtcgmlhlnkbjfnaaGreatDoor
set_option maxRecDepth 100000
open Go.RowKit Go.Sort M
set_option linter.unusedVariables false
set_option linter.unusedSimpArgs false

theorem specIn10_any (x a b : Int) (w : World) :
    Calls Tryz.prog 55 #[.int .i64 x, .int .i64 a, .int .i64 b] w fun e w' => e = .returned (.bool (decide (a ≤ x) && decide (x ≤ b))) ∧ w = w' := by
  go_enter Tryz.func55, Tryz.ntmps55
  go_wp2
  all_goals
    go_ret
    refine ⟨ret_bool ?_, rfl⟩
    simp_all <;> omega
set_option maxHeartbeats 2000000 in
theorem specAre_any (m : Nat → ByteArray) (l : List ByteArray) (A : Option Addr) (cap : Nat) (F : Addr → Prop) (w : World) (hl : l.length ≤ 1000000000) (hcap : l.length ≤ cap) (hv : RowRd (Rep.str m) false w (.slice A l.length cap) l F) :
    Calls Tryz.prog 34 #[.slice A l.length cap] w fun e w' => e = .returned (.bool (areC l)) ∧ Below w.heap.size w w' := by
  have HV := Lib.hid hv
  clear hv
  have HX : Hid (∀ k, k < l.length → ∃ y, l[k]? = some y) := fun k hk => ⟨_, List.getElem?_eq_getElem hk⟩
  go_enter Tryz.func34, Tryz.ntmps34
  go_wp2
  go_loopw [3] (fun i wr => ∃ (k : Nat), k ≤ l.length ∧ i = .int .i64 k ∧ Hid (∀ (j : Nat) (y : ByteArray), j < k → l[j]? = some y → hasB namesB y = true ∧ hasB (l.take j) y = false) ∧ Below w.heap.size w wr) (fun i _ => l.length - (intOf i).toNat)
  case atStart => exact ⟨0, by omega, rfl, fun j y hj => by omega, Below.refl _ _⟩
  case round =>
    obtain ⟨k, hk, rfl, hall, hbe0⟩ := hrel
    obtain ⟨w2, rfl⟩ : ∃ w2 : World, w2 = wr := ⟨_, rfl⟩
    have HB := Lib.hid hbe0
    clear hbe0
    by_cases hkl : k < l.length
    · obtain ⟨y, hy⟩ := HX.out k hkl
      have hvk := HV.out.kept HB.out
      obtain ⟨g, off, xs, Fk, rfl, _, hra, _, hca⟩ := hvk.get hy
      obtain ⟨rfl, _⟩ := hra
      rw [show (Rep.str m).size = 1 from rfl] at hca
      have c0 := hca 0 _ rfl
      simp only [Nat.add_zero, Nat.mul_one] at c0
      clear hca
      have HY := Lib.hid hy
      have HVK := Lib.hid hvk
      clear hy hvk
      have hkc : (k : Int) ≤ (cap : Int) := by omega
      have HCE : Hid (∀ W : World, Below w2.heap.size w2 W → W.cell? ⟨g, off + k, none⟩ = some (.string y)) := fun W hW => cell_kept hW c0
      have HH2 : Hid (∀ W : World, Below w2.heap.size w2 W → Calls Tryz.prog 79 #[.slice (some ⟨g, off, none⟩) k cap, .string y] W fun e w' => e = .returned (.bool (hasB (l.take k) y)) ∧ W = w') := fun W hW => specHasN_any m (l.take k) (.slice (some ⟨g, off, none⟩) k cap) F y W (by rw [List.length_take]; omega) ((HVK.out.kept hW).head k cap (by omega))
      have HH1 : Hid (∀ (W : World) (v : Value) (G : Addr → Prop), RowRd (Rep.str m) false W v namesB G → Calls Tryz.prog 79 #[v, .string y] W fun e w' => e = .returned (.bool (hasB namesB y)) ∧ W = w') := fun W v G hW => specHasN_any m namesB v G y W (by decide) hW
      have HN : Hid (∀ b c, hasB namesB y = b → hasB (l.take k) y = c → (b = false ∨ c = true) → areC l = false) := fun b c h1 h2 h => areC_bad HY.out (h.elim (fun h => .inl (h1.trans h)) (fun h => .inr (h2.trans h)))
      have HG : Hid (∀ b c, hasB namesB y = b → hasB (l.take k) y = c → b = true → c = false → ∀ (j : Nat) (z : ByteArray), j < k + 1 → l[j]? = some z → hasB namesB z = true ∧ hasB (l.take j) z = false) := fun b c h1 h2 hb hc j z hj hz => by
        by_cases e : j = k
        · subst e; rw [HY.out] at hz; cases hz; exact ⟨h1.trans hb, h2.trans hc⟩
        · exact hall.out j z (by omega) hz
      generalize hB : hasB namesB y = bn at *
      generalize hC : hasB (l.take k) y = bt at *
      have HN2 := Lib.hid (HN.out _ _ rfl rfl)
      have HG2 := Lib.hid (HG.out _ _ rfl rfl)
      clear HN HG hall c0 hB hC
      go_upto_region 4 with fail
      go_cut [26] (fun b wx => b = .bool (!bn || bt) ∧ Below w2.heap.size w2 wx)
      case first =>
        refine wp_region_held_drew (S := fun w' => Below w2.heap.size w2 w') (by kernel_rfl) ((Below.refl _ _).drew) (fun hHeld => ?_)
        cases bn
        · refine' wpAnyH_take (i := 1) (oi := _) (v := ?v1) rfl ?hs1 ?hf1 ?hr1 ?hQ1 (Or.inl ⟨?hw1, ?hy1⟩) hHeld ?rest1
          case hs1 => kernel_rfl
          case hf1 => kernel_rfl
          case hr1 => kernel_rfl
          case hQ1 => exact fun _ _ _ h => h
          case hw1 => kernel_rfl
          case hy1 => (intro w' hw'; go_simp; try with_reducible rfl)
          (try change wpAnyH _ _ _ _ _ _ _ (Act.put _ (some 11) _) _)
          try simp only [Act.put, List.setIfInBounds_toArray, List.set_cons_zero, List.set_cons_succ]
          refine' wpAnyH_take (i := 2) (oi := _) (v := ?v2) rfl ?hs2 ?hf2 ?hr2 ?hQ2 (Or.inl ⟨?hw2, ?hy2⟩) hHeld ?rest2
          case hs2 => kernel_rfl
          case hf2 => kernel_rfl
          case hr2 => kernel_rfl
          case hQ2 => exact fun _ _ _ h => h
          case hw2 => kernel_rfl
          case hy2 => (intro w' hw'; go_simp; try with_reducible rfl)
          (try change wpAnyH _ _ _ _ _ _ _ (Act.put _ (some 12) _) _)
          try simp only [Act.put, List.setIfInBounds_toArray, List.set_cons_zero, List.set_cons_succ]
          refine' wpAnyH_take (i := 3) (oi := _) (v := ?v3) rfl ?hs3 ?hf3 ?hr3 ?hQ3 (Or.inl ⟨?hw3, ?hy3⟩) hHeld ?rest3
          case hs3 => kernel_rfl
          case hf3 => kernel_rfl
          case hr3 => kernel_rfl
          case hQ3 => exact fun _ _ _ h => h
          case hw3 => kernel_rfl
          case hy3 => (intro w' hw'; go_simp; try with_reducible rfl)
          (try change wpAnyH _ _ _ _ _ _ _ (Act.put _ (some 13) _) _)
          try simp only [Act.put, List.setIfInBounds_toArray, List.set_cons_zero, List.set_cons_succ]
          refine' wpAnyH_take (i := 4) (oi := _) (v := ?v4) rfl ?hs4 ?hf4 ?hr4 ?hQ4 (Or.inl ⟨?hw4, ?hy4⟩) hHeld ?rest4
          case hs4 => kernel_rfl
          case hf4 => kernel_rfl
          case hr4 => kernel_rfl
          case hQ4 => exact fun _ _ _ h => h
          case hw4 => kernel_rfl
          case hy4 => (intro w' hw'; have c := HCE.out _ hw'; go_simp; try with_reducible rfl)
          (try change wpAnyH _ _ _ _ _ _ _ (Act.put _ (some 14) _) _)
          try simp only [Act.put, List.setIfInBounds_toArray, List.set_cons_zero, List.set_cons_succ]
          refine wpAnyH_ready (rs := [0]) (by kernel_rfl) (by simp) ?_
          refine AllReadyH.cons rfl (fun K hK => ?_) AllReadyH.nil
          go_simp
          go_at_call 80; refine (specNames_any _).mono ?_; rintro e wa ⟨ga, capa, rfl, hc1, hc2, hga, hown, hba⟩; have HRA := Lib.hid ((RowRd.of_strs m hown (by decide) names_short).weak); have hbe : Below w2.heap.size w2 wa := below_step hHeld hba; clear hown hba
          (try go_wp2_with fail)
          refine hK.out _ _ hbe (fun hHeld => ?_)
          clear hK K
          try simp only [Act.put, List.setIfInBounds_toArray, List.set_cons_zero, List.set_cons_succ]
          refine wpAnyH_ready (rs := [5]) (by kernel_rfl) (by simp) ?_
          refine AllReadyH.cons rfl (fun K hK => ?_) AllReadyH.nil
          go_simp
          go_at_call 79; refine (HH1.out _ _ _ HRA.out).mono ?_; rintro e wz ⟨rfl, rfl⟩
          (try go_wp2_with fail)
          refine hK.out _ _ hHeld (fun hHeld => ?_)
          clear hK K
          try simp only [Act.put, List.setIfInBounds_toArray, List.set_cons_zero, List.set_cons_succ]
          refine' wpAnyH_take (i := 6) (oi := _) (v := ?v5) rfl ?hs5 ?hf5 ?hr5 ?hQ5 (Or.inl ⟨?hw5, ?hy5⟩) hHeld ?rest5
          case hs5 => kernel_rfl
          case hf5 => kernel_rfl
          case hr5 => kernel_rfl
          case hQ5 => exact fun _ _ _ h => h
          case hw5 => kernel_rfl
          case hy5 => (intro w' hw'; go_simp; try with_reducible rfl)
          (try change wpAnyH _ _ _ _ _ _ _ (Act.put _ (some 16) _) _)
          try simp only [Act.put, List.setIfInBounds_toArray, List.set_cons_zero, List.set_cons_succ]
          refine' wpAnyH_take (i := 7) (oi := _) (v := ?v6) rfl ?hs6 ?hf6 ?hr6 ?hQ6 (Or.inl ⟨?hw6, ?hy6⟩) hHeld ?rest6
          case hs6 => kernel_rfl
          case hf6 => kernel_rfl
          case hr6 => kernel_rfl
          case hQ6 => exact fun _ _ _ h => h
          case hw6 => kernel_rfl
          case hy6 => (intro w' hw'; go_simp; try with_reducible rfl)
          (try change wpAnyH _ _ _ _ _ _ _ (Act.put _ (some 17) _) _)
          try simp only [Act.put, List.setIfInBounds_toArray, List.set_cons_zero, List.set_cons_succ]
          refine' wpAnyH_take (i := 8) (oi := _) (v := undef) rfl ?hs7 ?hf7 ?hr7 ?hQ7 (Or.inr ⟨?hw7, rfl⟩) hHeld ?rest7
          case hs7 => kernel_rfl
          case hf7 => kernel_rfl
          case hr7 => kernel_rfl
          case hQ7 => exact fun _ _ _ h => h
          case hw7 => kernel_rfl
          (try change wpAnyH _ _ _ _ _ _ _ (Act.put _ (some 18) _) _)
          try simp only [Act.put, List.setIfInBounds_toArray, List.set_cons_zero, List.set_cons_succ]
          refine' wpAnyH_take (i := 9) (oi := _) (v := undef) rfl ?hs8 ?hf8 ?hr8 ?hQ8 (Or.inr ⟨?hw8, rfl⟩) hHeld ?rest8
          case hs8 => kernel_rfl
          case hf8 => kernel_rfl
          case hr8 => kernel_rfl
          case hQ8 => exact fun _ _ _ h => h
          case hw8 => kernel_rfl
          (try change wpAnyH _ _ _ _ _ _ _ (Act.put _ (some 19) _) _)
          try simp only [Act.put, List.setIfInBounds_toArray, List.set_cons_zero, List.set_cons_succ]
          refine' wpAnyH_take (i := 10) (oi := _) (v := undef) rfl ?hs9 ?hf9 ?hr9 ?hQ9 (Or.inr ⟨?hw9, rfl⟩) hHeld ?rest9
          case hs9 => kernel_rfl
          case hf9 => kernel_rfl
          case hr9 => kernel_rfl
          case hQ9 => exact fun _ _ _ h => h
          case hw9 => kernel_rfl
          (try change wpAnyH _ _ _ _ _ _ _ (Act.put _ (some 20) _) _)
          try simp only [Act.put, List.setIfInBounds_toArray, List.set_cons_zero, List.set_cons_succ]
          refine' wpAnyH_take (i := 11) (oi := _) (v := undef) rfl ?hs10 ?hf10 ?hr10 ?hQ10 (Or.inr ⟨?hw10, rfl⟩) hHeld ?rest10
          case hs10 => kernel_rfl
          case hf10 => kernel_rfl
          case hr10 => kernel_rfl
          case hQ10 => exact fun _ _ _ h => h
          case hw10 => kernel_rfl
          (try change wpAnyH _ _ _ _ _ _ _ (Act.put _ (some 21) _) _)
          try simp only [Act.put, List.setIfInBounds_toArray, List.set_cons_zero, List.set_cons_succ]
          refine' wpAnyH_take (i := 12) (oi := _) (v := undef) rfl ?hs11 ?hf11 ?hr11 ?hQ11 (Or.inr ⟨?hw11, rfl⟩) hHeld ?rest11
          case hs11 => kernel_rfl
          case hf11 => kernel_rfl
          case hr11 => kernel_rfl
          case hQ11 => exact fun _ _ _ h => h
          case hw11 => kernel_rfl
          (try change wpAnyH _ _ _ _ _ _ _ (Act.put _ (some 22) _) _)
          try simp only [Act.put, List.setIfInBounds_toArray, List.set_cons_zero, List.set_cons_succ]
          refine' wpAnyH_take (i := 13) (oi := _) (v := undef) rfl ?hs12 ?hf12 ?hr12 ?hQ12 (Or.inr ⟨?hw12, rfl⟩) hHeld ?rest12
          case hs12 => kernel_rfl
          case hf12 => kernel_rfl
          case hr12 => kernel_rfl
          case hQ12 => exact fun _ _ _ h => h
          case hw12 => kernel_rfl
          (try change wpAnyH _ _ _ _ _ _ _ (Act.put _ (some 23) _) _)
          try simp only [Act.put, List.setIfInBounds_toArray, List.set_cons_zero, List.set_cons_succ]
          refine' wpAnyH_take (i := 14) (oi := _) (v := undef) rfl ?hs13 ?hf13 ?hr13 ?hQ13 (Or.inr ⟨?hw13, rfl⟩) hHeld ?rest13
          case hs13 => kernel_rfl
          case hf13 => kernel_rfl
          case hr13 => kernel_rfl
          case hQ13 => exact fun _ _ _ h => h
          case hw13 => kernel_rfl
          (try change wpAnyH _ _ _ _ _ _ _ (Act.put _ (some 24) _) _)
          try simp only [Act.put, List.setIfInBounds_toArray, List.set_cons_zero, List.set_cons_succ]
          refine' wpAnyH_take (i := 15) (oi := _) (v := undef) rfl ?hs14 ?hf14 ?hr14 ?hQ14 (Or.inr ⟨?hw14, rfl⟩) hHeld ?rest14
          case hs14 => kernel_rfl
          case hf14 => kernel_rfl
          case hr14 => kernel_rfl
          case hQ14 => exact fun _ _ _ h => h
          case hw14 => kernel_rfl
          (try change wpAnyH _ _ _ _ _ _ _ (Act.put _ (some 25) _) _)
          try simp only [Act.put, List.setIfInBounds_toArray, List.set_cons_zero, List.set_cons_succ]
          refine' wpAnyH_take (i := 16) (oi := _) (v := ?v15) rfl ?hs15 ?hf15 ?hr15 ?hQ15 (Or.inl ⟨?hw15, ?hy15⟩) hHeld ?rest15
          case hs15 => kernel_rfl
          case hf15 => kernel_rfl
          case hr15 => kernel_rfl
          case hQ15 => exact fun _ _ _ h => h
          case hw15 => kernel_rfl
          case hy15 => (intro w' hw'; go_simp; try with_reducible rfl)
          (try change wpAnyH _ _ _ _ _ _ _ (Act.put _ (some 26) _) _)
          try simp only [Act.put, List.setIfInBounds_toArray, List.set_cons_zero, List.set_cons_succ]
          refine wpAnyH_done ?hdone1 ?hq1 _
          case hdone1 => kernel_rfl
          go_wp2_with fail
          go_meet
          exact ⟨rfl, hHeld⟩
        · refine' wpAnyH_take (i := 1) (oi := _) (v := ?v16) rfl ?hs16 ?hf16 ?hr16 ?hQ16 (Or.inl ⟨?hw16, ?hy16⟩) hHeld ?rest16
          case hs16 => kernel_rfl
          case hf16 => kernel_rfl
          case hr16 => kernel_rfl
          case hQ16 => exact fun _ _ _ h => h
          case hw16 => kernel_rfl
          case hy16 => (intro w' hw'; go_simp; try with_reducible rfl)
          (try change wpAnyH _ _ _ _ _ _ _ (Act.put _ (some 11) _) _)
          try simp only [Act.put, List.setIfInBounds_toArray, List.set_cons_zero, List.set_cons_succ]
          refine' wpAnyH_take (i := 2) (oi := _) (v := ?v17) rfl ?hs17 ?hf17 ?hr17 ?hQ17 (Or.inl ⟨?hw17, ?hy17⟩) hHeld ?rest17
          case hs17 => kernel_rfl
          case hf17 => kernel_rfl
          case hr17 => kernel_rfl
          case hQ17 => exact fun _ _ _ h => h
          case hw17 => kernel_rfl
          case hy17 => (intro w' hw'; go_simp; try with_reducible rfl)
          (try change wpAnyH _ _ _ _ _ _ _ (Act.put _ (some 12) _) _)
          try simp only [Act.put, List.setIfInBounds_toArray, List.set_cons_zero, List.set_cons_succ]
          refine' wpAnyH_take (i := 3) (oi := _) (v := ?v18) rfl ?hs18 ?hf18 ?hr18 ?hQ18 (Or.inl ⟨?hw18, ?hy18⟩) hHeld ?rest18
          case hs18 => kernel_rfl
          case hf18 => kernel_rfl
          case hr18 => kernel_rfl
          case hQ18 => exact fun _ _ _ h => h
          case hw18 => kernel_rfl
          case hy18 => (intro w' hw'; go_simp; try with_reducible rfl)
          (try change wpAnyH _ _ _ _ _ _ _ (Act.put _ (some 13) _) _)
          try simp only [Act.put, List.setIfInBounds_toArray, List.set_cons_zero, List.set_cons_succ]
          refine' wpAnyH_take (i := 4) (oi := _) (v := ?v19) rfl ?hs19 ?hf19 ?hr19 ?hQ19 (Or.inl ⟨?hw19, ?hy19⟩) hHeld ?rest19
          case hs19 => kernel_rfl
          case hf19 => kernel_rfl
          case hr19 => kernel_rfl
          case hQ19 => exact fun _ _ _ h => h
          case hw19 => kernel_rfl
          case hy19 => (intro w' hw'; have c := HCE.out _ hw'; go_simp; try with_reducible rfl)
          (try change wpAnyH _ _ _ _ _ _ _ (Act.put _ (some 14) _) _)
          try simp only [Act.put, List.setIfInBounds_toArray, List.set_cons_zero, List.set_cons_succ]
          refine wpAnyH_ready (rs := [0]) (by kernel_rfl) (by simp) ?_
          refine AllReadyH.cons rfl (fun K hK => ?_) AllReadyH.nil
          go_simp
          go_at_call 80; refine (specNames_any _).mono ?_; rintro e wa ⟨ga, capa, rfl, hc1, hc2, hga, hown, hba⟩; have HRA := Lib.hid ((RowRd.of_strs m hown (by decide) names_short).weak); have hbe : Below w2.heap.size w2 wa := below_step hHeld hba; clear hown hba
          (try go_wp2_with fail)
          refine hK.out _ _ hbe (fun hHeld => ?_)
          clear hK K
          try simp only [Act.put, List.setIfInBounds_toArray, List.set_cons_zero, List.set_cons_succ]
          refine wpAnyH_ready (rs := [5]) (by kernel_rfl) (by simp) ?_
          refine AllReadyH.cons rfl (fun K hK => ?_) AllReadyH.nil
          go_simp
          go_at_call 79; refine (HH1.out _ _ _ HRA.out).mono ?_; rintro e wz ⟨rfl, rfl⟩
          (try go_wp2_with fail)
          refine hK.out _ _ hHeld (fun hHeld => ?_)
          clear hK K
          try simp only [Act.put, List.setIfInBounds_toArray, List.set_cons_zero, List.set_cons_succ]
          refine' wpAnyH_take (i := 6) (oi := _) (v := ?v20) rfl ?hs20 ?hf20 ?hr20 ?hQ20 (Or.inl ⟨?hw20, ?hy20⟩) hHeld ?rest20
          case hs20 => kernel_rfl
          case hf20 => kernel_rfl
          case hr20 => kernel_rfl
          case hQ20 => exact fun _ _ _ h => h
          case hw20 => kernel_rfl
          case hy20 => (intro w' hw'; go_simp; try with_reducible rfl)
          (try change wpAnyH _ _ _ _ _ _ _ (Act.put _ (some 16) _) _)
          try simp only [Act.put, List.setIfInBounds_toArray, List.set_cons_zero, List.set_cons_succ]
          refine' wpAnyH_take (i := 7) (oi := _) (v := ?v21) rfl ?hs21 ?hf21 ?hr21 ?hQ21 (Or.inl ⟨?hw21, ?hy21⟩) hHeld ?rest21
          case hs21 => kernel_rfl
          case hf21 => kernel_rfl
          case hr21 => kernel_rfl
          case hQ21 => exact fun _ _ _ h => h
          case hw21 => kernel_rfl
          case hy21 => (intro w' hw'; go_simp; try with_reducible rfl)
          (try change wpAnyH _ _ _ _ _ _ _ (Act.put _ (some 17) _) _)
          try simp only [Act.put, List.setIfInBounds_toArray, List.set_cons_zero, List.set_cons_succ]
          refine' wpAnyH_take (i := 8) (oi := _) (v := ?v22) rfl ?hs22 ?hf22 ?hr22 ?hQ22 (Or.inl ⟨?hw22, ?hy22⟩) hHeld ?rest22
          case hs22 => kernel_rfl
          case hf22 => kernel_rfl
          case hr22 => kernel_rfl
          case hQ22 => exact fun _ _ _ h => h
          case hw22 => kernel_rfl
          case hy22 => (intro w' hw'; go_simp; try with_reducible rfl)
          (try change wpAnyH _ _ _ _ _ _ _ (Act.put _ (some 18) _) _)
          try simp only [Act.put, List.setIfInBounds_toArray, List.set_cons_zero, List.set_cons_succ]
          refine' wpAnyH_take (i := 9) (oi := _) (v := ?v23) rfl ?hs23 ?hf23 ?hr23 ?hQ23 (Or.inl ⟨?hw23, ?hy23⟩) hHeld ?rest23
          case hs23 => kernel_rfl
          case hf23 => kernel_rfl
          case hr23 => kernel_rfl
          case hQ23 => exact fun _ _ _ h => h
          case hw23 => kernel_rfl
          case hy23 => (intro w' hw'; go_simp; try with_reducible rfl)
          (try change wpAnyH _ _ _ _ _ _ _ (Act.put _ (some 19) _) _)
          try simp only [Act.put, List.setIfInBounds_toArray, List.set_cons_zero, List.set_cons_succ]
          refine' wpAnyH_take (i := 10) (oi := _) (v := ?v24) rfl ?hs24 ?hf24 ?hr24 ?hQ24 (Or.inl ⟨?hw24, ?hy24⟩) hHeld ?rest24
          case hs24 => kernel_rfl
          case hf24 => kernel_rfl
          case hr24 => kernel_rfl
          case hQ24 => exact fun _ _ _ h => h
          case hw24 => kernel_rfl
          case hy24 => (intro w' hw'; go_simp; try with_reducible rfl)
          (try change wpAnyH _ _ _ _ _ _ _ (Act.put _ (some 20) _) _)
          try simp only [Act.put, List.setIfInBounds_toArray, List.set_cons_zero, List.set_cons_succ]
          refine' wpAnyH_take (i := 11) (oi := _) (v := ?v25) rfl ?hs25 ?hf25 ?hr25 ?hQ25 (Or.inl ⟨?hw25, ?hy25⟩) hHeld ?rest25
          case hs25 => kernel_rfl
          case hf25 => kernel_rfl
          case hr25 => kernel_rfl
          case hQ25 => exact fun _ _ _ h => h
          case hw25 => kernel_rfl
          case hy25 => (intro w' hw'; go_simp; try with_reducible rfl)
          (try change wpAnyH _ _ _ _ _ _ _ (Act.put _ (some 21) _) _)
          try simp only [Act.put, List.setIfInBounds_toArray, List.set_cons_zero, List.set_cons_succ]
          refine' wpAnyH_take (i := 12) (oi := _) (v := ?v26) rfl ?hs26 ?hf26 ?hr26 ?hQ26 (Or.inl ⟨?hw26, ?hy26⟩) hHeld ?rest26
          case hs26 => kernel_rfl
          case hf26 => kernel_rfl
          case hr26 => kernel_rfl
          case hQ26 => exact fun _ _ _ h => h
          case hw26 => kernel_rfl
          case hy26 => (intro w' hw'; go_simp; try with_reducible rfl)
          (try change wpAnyH _ _ _ _ _ _ _ (Act.put _ (some 22) _) _)
          try simp only [Act.put, List.setIfInBounds_toArray, List.set_cons_zero, List.set_cons_succ]
          refine' wpAnyH_take (i := 13) (oi := _) (v := ?v27) rfl ?hs27 ?hf27 ?hr27 ?hQ27 (Or.inl ⟨?hw27, ?hy27⟩) hHeld ?rest27
          case hs27 => kernel_rfl
          case hf27 => kernel_rfl
          case hr27 => kernel_rfl
          case hQ27 => exact fun _ _ _ h => h
          case hw27 => kernel_rfl
          case hy27 => (intro w' hw'; go_simp; try with_reducible rfl)
          (try change wpAnyH _ _ _ _ _ _ _ (Act.put _ (some 23) _) _)
          try simp only [Act.put, List.setIfInBounds_toArray, List.set_cons_zero, List.set_cons_succ]
          refine' wpAnyH_take (i := 14) (oi := _) (v := ?v28) rfl ?hs28 ?hf28 ?hr28 ?hQ28 (Or.inl ⟨?hw28, ?hy28⟩) hHeld ?rest28
          case hs28 => kernel_rfl
          case hf28 => kernel_rfl
          case hr28 => kernel_rfl
          case hQ28 => exact fun _ _ _ h => h
          case hw28 => kernel_rfl
          case hy28 => (intro w' hw'; have c := HCE.out _ hw'; go_simp; try with_reducible rfl)
          (try change wpAnyH _ _ _ _ _ _ _ (Act.put _ (some 24) _) _)
          try simp only [Act.put, List.setIfInBounds_toArray, List.set_cons_zero, List.set_cons_succ]
          refine wpAnyH_ready (rs := [15]) (by kernel_rfl) (by simp) ?_
          refine AllReadyH.cons rfl (fun K hK => ?_) AllReadyH.nil
          go_simp
          go_at_call 79; refine (HH2.out _ hHeld).mono ?_; rintro e wz ⟨rfl, rfl⟩
          (try go_wp2_with fail)
          refine hK.out _ _ hHeld (fun hHeld => ?_)
          clear hK K
          try simp only [Act.put, List.setIfInBounds_toArray, List.set_cons_zero, List.set_cons_succ]
          refine' wpAnyH_take (i := 16) (oi := _) (v := ?v29) rfl ?hs29 ?hf29 ?hr29 ?hQ29 (Or.inl ⟨?hw29, ?hy29⟩) hHeld ?rest29
          case hs29 => kernel_rfl
          case hf29 => kernel_rfl
          case hr29 => kernel_rfl
          case hQ29 => exact fun _ _ _ h => h
          case hw29 => kernel_rfl
          case hy29 => (intro w' hw'; go_simp; try with_reducible rfl)
          (try change wpAnyH _ _ _ _ _ _ _ (Act.put _ (some 26) _) _)
          try simp only [Act.put, List.setIfInBounds_toArray, List.set_cons_zero, List.set_cons_succ]
          refine wpAnyH_done ?hdone2 ?hq2 _
          case hdone2 => kernel_rfl
          go_wp2_with fail
          go_meet
          exact ⟨rfl, hHeld⟩
      case rest =>
        obtain ⟨rfl, hbw⟩ := hcut
        have HBW := Lib.hid (HB.out.trans (hbw.mono HB.out.size))
        clear hbw HCE HH1 HH2 HVK
        by_cases ht : bn = true ∧ bt = false
        · obtain ⟨rfl, rfl⟩ := ht
          have HNX := Lib.hid (HG2.out rfl rfl)
          clear HG2 HN2
          go_wp2
          exact ⟨⟨k + 1, by omega, by go_num, HNX.out, HBW.out⟩, by simp [intOf]; omega⟩
        · have HF := Lib.hid (HN2.out (by cases bn <;> cases bt <;> simp_all))
          have hbb : (!bn || bt) = true := by cases bn <;> cases bt <;> simp_all
          clear HG2 HN2 ht
          rw [hbb]
          go_wp2
          go_ret
          exact ⟨by rw [HF.out]; rfl, HBW.out⟩
    · obtain rfl : k = l.length := by omega
      have HN : Hid (areC l = _) := areC_good fun j y hj => hall.out j y (List.getElem?_eq_some_iff.1 hj).1 hj
      clear hall
      go_wp2_with fail
      refine (specIn10_any _ _ _ _).mono ?_
      rintro e w3 ⟨rfl, rfl⟩
      go_wp2
      go_ret
      exact ⟨by first | exact ret_bool HN.out | exact ret_bool HN.out.symm, HB.out⟩
end Go.Proofs.YtcgmlhlnkbjfnaaGreatDoor

/- Names of constraints: the program's ConstraintNames, slices.Contains, IsMarkedness, AreConstraints: what they answer. -/
namespace Go.Proofs.YtcgmlhlnkbjfnaaGreatDoor
set_option maxRecDepth 100000
open Go.RowKit Go.Sort M
set_option linter.unusedVariables false
set_option linter.unusedSimpArgs false

def idxB (l : List ByteArray) (x : ByteArray) : Int := if hasB l x then (l.findIdx fun y => decide (y = x) : Nat) else -1
theorem idxB_no {l : List ByteArray} {x : ByteArray} (h : ∀ (j : Nat) (y : ByteArray), l[j]? = some y → ¬ y = x) : idxB l x = -1 := by
  unfold idxB; rw [hasB_no h]; rfl
theorem idxB_yes {l : List ByteArray} {k : Nat} {x : ByteArray} (h : l[k]? = some x) (hf : ∀ (j : Nat) (y : ByteArray), j < k → l[j]? = some y → ¬ y = x) : idxB l x = k := by
  obtain ⟨hl, he⟩ := List.getElem?_eq_some_iff.1 h
  have h1 : (l.findIdx fun y => decide (y = x)) = k := by
    rw [List.findIdx_eq hl]
    exact ⟨by simp [he], fun j hj => by simpa using hf j _ hj (List.getElem?_eq_getElem (by omega))⟩
  unfold idxB; rw [if_pos (hasB_yes h), h1]
theorem hasB_idx (l : List ByteArray) (x : ByteArray) : hasB l x = decide (0 ≤ idxB l x) := by
  unfold idxB
  cases hasB l x
  · rfl
  · simp
theorem idxB_rng (l : List ByteArray) (x : ByteArray) : -1 ≤ idxB l x := by
  unfold idxB; split <;> omega
theorem areC_short {l : List ByteArray} (h : ¬ (1 ≤ l.length ∧ l.length ≤ 5)) : areC l = false := by
  cases hc : areC l with
  | false => rfl
  | true => exact (h (areC_len hc)).elim
theorem implNames_any (w : World) : Calls Tryz.prog 84 #[] w (NmPost w) := by
  go_enter Tryz.func84, Tryz.ntmps84
  go_wp2
  go_ret
  exact ⟨_, _, rfl, Nat.le_refl _, by omega, Nat.le_refl _, str_new w namesB 10 _ rfl rfl (by omega), (Below.refl _ _).alloc (Nat.le_refl _) _⟩
set_option maxHeartbeats 1000000 in
theorem indexS_any (m : Nat → ByteArray) (l : List ByteArray) (v : Value) (F : Addr → Prop) (x : ByteArray) (w : World) (hl : l.length ≤ 1000000000) (hv : RowRd (Rep.str m) false w v l F) :
    Calls Tryz.prog 120 #[v, .string x] w fun e w' => e = .returned (.int .i64 (idxB l x)) ∧ w = w' := by
  obtain ⟨A, cap, rfl⟩ := hv.form
  have HV := Lib.hid hv
  clear hv
  have HX : Hid (∀ k, k < l.length → ∃ y, l[k]? = some y) := fun k hk => ⟨_, List.getElem?_eq_getElem hk⟩
  go_enter Tryz.func120, Tryz.ntmps120
  go_wp2
  go_loop [8] (fun i => ∃ (k : Nat), k ≤ l.length ∧ i = .int .i64 k ∧ Hid (∀ (j : Nat) (y : ByteArray), j < k → l[j]? = some y → ¬ y = x)) (fun i => l.length - (intOf i).toNat)
  case atStart => exact ⟨0, by omega, rfl, fun j y hj => by omega⟩
  case round =>
    obtain ⟨k, hk, rfl, hall⟩ := hrel
    by_cases hkl : k < l.length
    · obtain ⟨y, hy⟩ := HX.out k hkl
      obtain ⟨g, off, xs, Fk, rfl, _, hra, _, hca⟩ := HV.out.get hy
      obtain ⟨rfl, _⟩ := hra
      rw [show (Rep.str m).size = 1 from rfl] at hca
      have c0 := hca 0 _ rfl
      simp only [Nat.add_zero, Nat.mul_one] at c0
      clear hca
      have HY := Lib.hid hy
      clear hy
      go_wp2
      · have hq : (x.toList == y.toList) = true := by assumption
        have he : y = x := by
          rw [beq_iff_eq] at hq
          exact (toList_inj10 hq).symm
        have HN : Hid (idxB l x = k) := idxB_yes (he ▸ HY.out) hall.out
        go_ret
        exact ⟨by rw [HN.out]; rfl, rfl⟩
      · rename_i hq
        have he : ¬ y = x := fun e => by rw [e] at hq; simp at hq
        go_round
        case rel =>
          refine ⟨k + 1, by omega, by go_num, fun j z hj hz => ?_⟩
          by_cases e : j = k
          · subst e; rw [HY.out] at hz; cases hz; exact he
          · exact hall.out j z (by omega) hz
        case measure => simp [intOf]; omega
    · obtain rfl : k = l.length := by omega
      have HN : Hid (idxB l x = -1) := idxB_no fun j y hj => hall.out j y (List.getElem?_eq_some_iff.1 hj).1 hj
      clear hall
      go_wp2
      go_ret
      exact ⟨by rw [HN.out]; rfl, rfl⟩
theorem contains_any (m : Nat → ByteArray) (l : List ByteArray) (v : Value) (F : Addr → Prop) (x : ByteArray) (w : World) (hl : l.length ≤ 1000000000) (hv : RowRd (Rep.str m) false w v l F) :
    Calls Tryz.prog 85 #[v, .string x] w fun e w' => e = .returned (.bool (hasB l x)) ∧ w = w' := by
  have HC := Lib.hid (indexS_any m l v F x w hl hv)
  clear hv
  rw [hasB_idx]
  generalize idxB l x = i at *
  go_enter Tryz.func85, Tryz.ntmps85
  go_wp2_with fail
  refine HC.out.mono ?_
  rintro e w1 ⟨rfl, rfl⟩
  go_wp2
  go_ret
  exact ⟨rfl, rfl⟩
theorem specHead (m : Nat → ByteArray) (l : List ByteArray) (g off cap : Nat) (F : Addr → Prop) (y : ByteArray) (w : World) (k : Nat) (hk : k ≤ l.length) (hl : l.length ≤ 1000000000) (hv : RowRd (Rep.str m) false w (.slice (some ⟨g, off, none⟩) l.length cap) l F) :
    Calls Tryz.prog 85 #[.slice (some ⟨g, off, none⟩) k cap, .string y] w fun e w' => e = .returned (.bool (hasB (l.take k) y)) ∧ w = w' :=
  contains_any m (l.take k) (.slice (some ⟨g, off, none⟩) k cap) F y w (by rw [List.length_take]; omega) (hv.head k cap hk (by have := hv.cap_le; omega))
set_option maxHeartbeats 2000000 in
theorem implAre_any (m : Nat → ByteArray) (l : List ByteArray) (A : Option Addr) (cap : Nat) (F : Addr → Prop) (w : World) (hl : l.length ≤ 1000000000) (hcap : l.length ≤ cap) (hv : RowRd (Rep.str m) false w (.slice A l.length cap) l F) :
    Calls Tryz.prog 38 #[.slice A l.length cap] w fun e w' => e = .returned (.bool (areC l)) ∧ Below w.heap.size w w' := by
  have HV := Lib.hid hv
  clear hv
  have HX : Hid (∀ k, k < l.length → ∃ y, l[k]? = some y) := fun k hk => ⟨_, List.getElem?_eq_getElem hk⟩
  by_cases h1 : (l.length : Int) < 1
  · have HF : Hid (areC l = false) := areC_short (by omega)
    go_enter Tryz.func38, Tryz.ntmps38
    go_wp2
    go_ret
    exact ⟨by rw [HF.out]; rfl, Below.refl _ _⟩
  by_cases h5 : (5 : Int) < (l.length : Int)
  · have HF : Hid (areC l = false) := areC_short (by omega)
    go_enter Tryz.func38, Tryz.ntmps38
    go_wp2
    go_ret
    exact ⟨by rw [HF.out]; rfl, Below.refl _ _⟩
  go_enter Tryz.func38, Tryz.ntmps38
  go_wp2_with fail
  refine (implNames_any _).mono ?_
  rintro e w2 ⟨g0, cap0, rfl, hc1, hc2, hg0, hown, hb⟩
  have HK := Lib.hid ((RowRd.of_strs m hown (by decide) names_short).weak)
  have HV2 := Lib.hid (HV.out.kept hb)
  have HB := Lib.hid hb
  clear hb hown HV
  go_wp2_with fail
  go_loop [17] (fun i => ∃ (k : Nat), k ≤ l.length ∧ i = .int .i64 k ∧ Hid (∀ (j : Nat) (y : ByteArray), j < k → l[j]? = some y → hasB namesB y = true ∧ hasB (l.take j) y = false)) (fun i => l.length - (intOf i).toNat)
  case atStart => exact ⟨0, by omega, rfl, fun j y hj => by omega⟩
  case round =>
    obtain ⟨k, hk, rfl, hall⟩ := hrel
    by_cases hkl : k < l.length
    · obtain ⟨y, hy⟩ := HX.out k hkl
      obtain ⟨g, off, xs, Fk, rfl, _, hra, _, hca⟩ := HV2.out.get hy
      obtain ⟨rfl, _⟩ := hra
      rw [show (Rep.str m).size = 1 from rfl] at hca
      have c0 := hca 0 _ rfl
      simp only [Nat.add_zero, Nat.mul_one] at c0
      clear hca
      have HY := Lib.hid hy
      clear hy
      have hkc : (k : Int) ≤ (cap : Int) := by omega
      have HH2 := Lib.hid (specHead m l g off cap F y w2 k (by omega) hl HV2.out)
      have HN : Hid (∀ b c, hasB namesB y = b → hasB (l.take k) y = c → (b = false ∨ c = true) → areC l = false) := fun b c h1 h2 h => areC_bad HY.out (h.elim (fun h => .inl (h1.trans h)) (fun h => .inr (h2.trans h)))
      have HG : Hid (∀ b c, hasB namesB y = b → hasB (l.take k) y = c → b = true → c = false → ∀ (j : Nat) (z : ByteArray), j < k + 1 → l[j]? = some z → hasB namesB z = true ∧ hasB (l.take j) z = false) := fun b c h1 h2 hb hc j z hj hz => by
        by_cases e : j = k
        · subst e; rw [HY.out] at hz; cases hz; exact ⟨h1.trans hb, h2.trans hc⟩
        · exact hall.out j z (by omega) hz
      have HH1 := Lib.hid (contains_any m namesB _ _ y w2 (by decide) HK.out)
      generalize hB : hasB namesB y = bn at *
      generalize hC : hasB (l.take k) y = bt at *
      have HN2 := Lib.hid (HN.out _ _ rfl rfl)
      have HG2 := Lib.hid (HG.out _ _ rfl rfl)
      clear HN HG hall hB hC
      go_wp2_with fail
      refine HH1.out.mono ?_
      rintro e w3 ⟨rfl, rfl⟩
      cases bn
      · have HF := Lib.hid (HN2.out (.inl (by first | rfl | trivial)))
        go_wp2
        go_ret
        exact ⟨by rw [HF.out]; rfl, HB.out⟩
      · go_wp2_with fail
        refine HH2.out.mono ?_
        rintro e w3 ⟨rfl, rfl⟩
        cases bt
        · have HNX := Lib.hid (HG2.out (by first | rfl | trivial) (by first | rfl | trivial))
          go_wp2
          go_round
          case rel => exact ⟨k + 1, by omega, by go_num, HNX.out⟩
          case measure => simp [intOf]; omega
        · have HF := Lib.hid (HN2.out (.inr (by first | rfl | trivial)))
          go_wp2
          go_ret
          exact ⟨by rw [HF.out]; rfl, HB.out⟩
    · obtain rfl : k = l.length := by omega
      have HN : Hid (areC l = true) := by
        unfold Hid
        rw [areC_good fun j y hj => hall.out j y (List.getElem?_eq_some_iff.1 hj).1 hj]
        simp; omega
      clear hall
      go_wp2
      go_ret
      exact ⟨by rw [HN.out]; rfl, HB.out⟩
end Go.Proofs.YtcgmlhlnkbjfnaaGreatDoor

/- Appending one number to a row of numbers that the call made: a law for the walk. -/
namespace Go.Proofs.YtcgmlhlnkbjfnaaGreatDoor
set_option maxRecDepth 100000
open Go.RowKit
def cellsI (l : List Int) : List Value := l.map fun z => .int .i64 z
theorem cellsI_len (l : List Int) : (cellsI l).length = l.length := by simp [cellsI]
theorem cellsI_append (a b : List Int) : cellsI (a ++ b) = cellsI a ++ cellsI b := by simp [cellsI]
theorem cellsI_at (l : List Int) (k : Nat) (h : k < l.length) : (cellsI l)[k]? = some (.int .i64 (l.getD k 0)) := by
  unfold cellsI; rw [List.getElem?_map, List.getElem?_eq_getElem h]; simp [h]
theorem Tryz.info3i : (Tryz.prog.info? 3).map (fun i => (i.zero, i.size, i.bytes)) = some (some (.int .i64 0), 1, 8) := by kernel_rfl
theorem wpList_append_int {ops : Array Oper} {rest : List Oper} {o : Oper} {a : Act} {Q : Exit → Act → World → Prop} (w : World) (hgd : o.guard = none) (s x : Operand)
    (ho : o.op = .call { callee := .builtin .append, args := #[s, x], argTypes := #[44, 44] })
    (base : Nat) (v : Value) (n : Nat) (l : List Int) (hs : a.eval s = v) (hown : w.ownsRow base 3 1 v n (cellsI l)) (b : Int)
    (hx : a.eval x = .slice (some ⟨w.heap.size, 0, none⟩) 1 1) (hn : n ≤ 1000000000) (hbase : base ≤ w.heap.size)
    (h : ∀ v' w', w'.ownsRow base 3 1 v' (n + 1) (cellsI (l ++ [b])) → Below base w w' → wpList Tryz.prog ops Q rest (a.put o.dst v') w') :
    wpList Tryz.prog ops Q (o :: rest) a (w.alloc (.cells #[.int .i64 b] 3)) := by
  obtain ⟨i0, hi, hz0, hz1, hz2⟩ := info_parts Tryz.info3i
  refine wpList_append_own (w.alloc (.cells #[.int .i64 b] 3)) hgd s x 44 ho base 3 i0 (.int .i64 0) 1 8 Tryz.underlying44 hi hz0 hz1 hz2 rfl (by decide) v n (cellsI l) hs (hown.alloc _) ⟨w.heap.size, 0, none⟩ 1 1 [.int .i64 b] hx rfl (cell_one_new _ _ _)
    (fun u hu => by simp at hu; subst hu; rfl) (by unfold maxLen; omega) (by omega) (by simp; omega) ?_
  intro v' w' h1 h2 _
  refine h v' w' (by rw [cellsI_append]; exact h1) ?_
  exact ((Below.refl base w).alloc hbase _).grown h2 (by simp; omega) (fun q hq => (hown.lt q hq).1)
end Go.Proofs.YtcgmlhlnkbjfnaaGreatDoor

/- ProfileOf of both: what it answers. -/
namespace Go.Proofs.YtcgmlhlnkbjfnaaGreatDoor
set_option maxRecDepth 100000
open Go.RowKit Go.Sort M
set_option linter.unusedVariables false
set_option linter.unusedSimpArgs false

theorem step_append_int {ops : Array Oper} {o : Oper} {a : Act} {K : Act → World → Prop} {Q : Exit → Act → World → Prop} {E : Prop} (w : World) (hgd : o.guard = none) (s x : Operand)
    (ho : o.op = .call { callee := .builtin .append, args := #[s, x], argTypes := #[44, 44] })
    (base : Nat) (v : Value) (n : Nat) (l : List Int) (hs : a.eval s = v) (hown : w.ownsRow base 3 1 v n (cellsI l)) (b : Int)
    (hx : a.eval x = .slice (some ⟨w.heap.size, 0, none⟩) 1 1) (hn : n ≤ 1000000000) (hbase : base ≤ w.heap.size)
    (h : ∀ v' w', w'.ownsRow base 3 1 v' (n + 1) (cellsI (l ++ [b])) → Below base w w' → K (a.put o.dst v') w') :
    if Region.wanted o (yielded ops a.tmps) = true then Oper.wp Tryz.prog o a (w.alloc (.cells #[.int .i64 b] 3)) K Q else E := by
  have hw : Region.wanted o (yielded ops a.tmps) = true := by simp [Region.wanted, hgd]
  rw [if_pos hw]
  obtain ⟨i0, hi, hz0, hz1, hz2⟩ := info_parts Tryz.info3i
  refine wp_append_own (w.alloc (.cells #[.int .i64 b] 3)) s x 44 ho base 3 i0 (.int .i64 0) 1 8 Tryz.underlying44 hi hz0 hz1 hz2 rfl (by decide) v n (cellsI l) hs (hown.alloc _) ⟨w.heap.size, 0, none⟩ 1 1 [.int .i64 b] hx rfl (cell_one_new _ _ _)
    (fun u hu => by simp at hu; subst hu; rfl) (by unfold maxLen; omega) (by omega) (by simp; omega) ?_
  intro v' w' h1 h2 _
  refine h v' w' (by rw [cellsI_append]; exact h1) ?_
  exact ((Below.refl base w).alloc hbase _).grown h2 (by simp; omega) (fun q hq => (hown.lt q hq).1)
theorem vioN_i64 (x : ByteArray) (l : List DLink) (hl : l.length ≤ 1048576) : I64 (vioN x l) := by
  have h1 : ∀ P Q, mkC P Q (outT l) ≤ 9 := fun P Q => mkC_le P Q _
  have h2 : ∀ p : DLink → Bool, cntC p l ≤ l.length := fun p => by
    unfold cntC; split
    · exact List.countP_le_length
    · omega
  have h3 : brkC l ≤ l.length := by
    unfold brkC; split
    · unfold brkL insideL
      refine Nat.le_trans List.countP_le_length ?_
      rw [List.length_drop, List.length_take]
      omega
    · omega
  unfold vioN
  split
  · have hn := nix_le x
    unfold cntN I64
    split
    · have := h1 nconsB vowB; omega
    · have := h1 consB nvowB; omega
    · have := h1 consB consB; omega
    · have := h1 anyB vobB; omega
    · have := h1 vobB edgB; omega
    · have := h1 nasB vlsB; omega
    · have := h2 delK; omega
    · have := h2 insK; omega
    · have := h2 vchK; omega
    · omega
    · omega
  · unfold I64; omega
theorem own_keptI10 {w w' : World} {base : Nat} {e : TypeId} {size : Nat} {v : Value} {n : Nat} {xs : List Value} (hb : Below w.heap.size w w') (h : w.ownsRow base e size v n xs) : w'.ownsRow base e size v n xs := own_kept hb h
/-- A row of numbers of the call's own. -/
def IntPost (l : List Int) (w : World) (e : Ending) (w' : World) : Prop := ∃ v, e = .returned v ∧ RowRd Rep.int true w' v l (fun a => w.heap.size ≤ a.block) ∧ Below w.heap.size w w'
theorem ints_i64 (ns : List ByteArray) (l : List DLink) (k : Nat) (hl : l.length ≤ 1048576) : ∀ z ∈ profTo ns l k, I64 z := by
  intro z hz
  unfold profTo at hz
  rw [List.mem_map] at hz
  obtain ⟨x, _, rfl⟩ := hz
  exact vioN_i64 x l hl
theorem cellsI_N (l : List Int) : cellsI l = cellsN l := rfl
theorem own_form3 {w : World} {base n : Nat} {e z : Nat} {u : Value} {c : List Value} (h : w.ownsRow base e z u n c) : ∃ A cap, u = .slice A n cap := by
  rcases h.2 with ⟨rfl, hn⟩ | ⟨g, cap, cur, rfl, _⟩
  · exact ⟨none, 0, by rw [hn]⟩
  · exact ⟨_, _, rfl⟩
set_option maxHeartbeats 8000000 in
theorem specProf_any (m : Nat → ByteArray) (ns : List ByteArray) (A : Option Addr) (cap : Nat) (F : Addr → Prop) (x : DCandidate) (v : Value) (G : Addr → Prop) (w : World) (hn : ns.length ≤ 1048576) (hl : x.Links.length ≤ 1048576) (hcap : ns.length ≤ cap) (hns : RowRd (Rep.str m) false w (.slice A ns.length cap) ns F) (hv : RowRd rLink false w v x.Links G) :
    Calls Tryz.prog 37 #[.slice A ns.length cap, .agg #[v]] w (IntPost (profN ns x.Links) w) := by
  have HS0 : Hid (∀ W, Below w.heap.size w W → Calls Tryz.prog 57 #[.agg #[v]] W fun e w' => e = .returned (.bool (isCd x.Links)) ∧ Below W.heap.size W w') := fun W hW => specIsCd_any x _ G W hl (hv.kept hW)
  have HSA : Hid (∀ W, Below w.heap.size w W → Calls Tryz.prog 34 #[.slice A ns.length cap] W fun e w' => e = .returned (.bool (areC ns)) ∧ Below W.heap.size W w') := fun W hW => specAre_any m ns A cap F W (by omega) hcap (hns.kept hW)
  have HSV : Hid (∀ nm W, Below w.heap.size w W → Calls Tryz.prog 83 #[.string nm, .agg #[v]] W fun e w' => e = .returned (.int .i64 (vioN nm x.Links)) ∧ Below W.heap.size W w') := fun nm W hW => specVio_any nm x _ G W hl (hv.kept hW)
  have HX : Hid (∀ k, k < ns.length → ∃ y, ns[k]? = some y) := fun k hk => ⟨_, List.getElem?_eq_getElem hk⟩
  have HNS := Lib.hid hns
  have HNO : Hid (areC ns = false ∨ isCd x.Links = false → profN ns x.Links = []) := profN_no
  have HYE : Hid (areC ns = true → isCd x.Links = true → profN ns x.Links = profTo ns x.Links ns.length) := profN_yes
  have HI := Lib.hid (ints_i64 ns x.Links ns.length hl)
  have HP : Hid (∀ u w', RowRd Rep.int true w' u (profN ns x.Links) (fun a => w.heap.size ≤ a.block) → Below w.heap.size w w' → IntPost (profN ns x.Links) w (.returned u) w') := fun u w' h1 h2 => ⟨u, rfl, h1, h2⟩
  obtain ⟨B, q, rfl⟩ := hv.form
  clear hv hns
  generalize isCd x.Links = c at *
  have HA : Hid (∀ o, Below w.heap.size w (w.alloc o)) := fun o => (Below.refl _ _).alloc (Nat.le_refl _) _
  have HA1 : Hid (InC ((w.alloc (.cells #[.slice B x.Links.length q] 59)).alloc (.cells #[] 3)) w.heap.size #[.slice B x.Links.length q] 59) := (heap_alloc_old _ _ (by simp)).trans (heap_alloc_new _ _)
  have HO0 : Hid (((w.alloc (.cells #[.slice B x.Links.length q] 59)).alloc (.cells #[] 3)).ownsRow (w.heap.size + 1) 3 1 (.slice (some ⟨w.heap.size + 1, 0, none⟩) 0 0) 0 (cellsI [])) := ⟨rfl, Or.inr ⟨w.heap.size + 1, 0, #[], rfl, Nat.le_refl _, by rw [show w.heap.size + 1 = (w.alloc (.cells #[.slice B x.Links.length q] 59)).heap.size by simp]; exact heap_alloc_new _ _, Nat.le_refl _, by unfold maxLen; omega, rfl, rfl⟩⟩
  have HB0 : Hid (Below w.heap.size w ((w.alloc (.cells #[.slice B x.Links.length q] 59)).alloc (.cells #[] 3))) := ((Below.refl _ _).alloc (Nat.le_refl _) _).alloc (by simp) _
  have HS1 : Hid (w.heap.size + 1 ≤ ((w.alloc (.cells #[.slice B x.Links.length q] 59)).alloc (.cells #[] 3)).heap.size) := by unfold Hid; simp
  go_enter Tryz.func37, Tryz.ntmps37
  go_wp2
  go_loopw [5, 6] (fun u i wr => ∃ (k : Nat), k ≤ ns.length ∧ i = .int .i64 k ∧ wr.ownsRow (w.heap.size + 1) 3 1 u k (cellsI (profTo ns x.Links k)) ∧ InC wr w.heap.size #[.slice B x.Links.length q] 59 ∧ (0 < k → areC ns = true ∧ c = true) ∧ w.heap.size + 1 ≤ wr.heap.size ∧ Below w.heap.size w wr) (fun _ i _ => ns.length - (intOf i).toNat)
  case atStart => exact ⟨0, by omega, rfl, HO0.out, HA1.out, fun h => by omega, HS1.out, HB0.out⟩
  case round =>
    obtain ⟨k, hk, rfl, hown, hbox, hpos, hsz, hbe⟩ := hrel
    have HW := Lib.hid hown
    have HBX := Lib.hid hbox
    have HPO := Lib.hid hpos
    have HBE := Lib.hid hbe
    obtain ⟨w2, rfl⟩ : ∃ w2 : World, w2 = wr := ⟨_, rfl⟩
    obtain ⟨A3, cap3, rfl⟩ := own_form3 hown
    clear hown hbox hpos hbe
    by_cases hkl : k < ns.length
    · obtain ⟨y, hy⟩ := HX.out k hkl
      have HST := Lib.hid (profTo_step (l := x.Links) hy)
      have HY := Lib.hid hy
      clear hy
      go_wp2_with fail
      refine (HSA.out _ HBE.out).mono ?_
      rintro e w3 ⟨rfl, hb⟩
      have HB3 : Hid (Below w.heap.size w w3) := below_step HBE.out hb
      have HW3 := Lib.hid (own_kept hb HW.out)
      have HBX3 := Lib.hid (HBX.out.kept hb)
      have b3 := HBX3.out.cell 0 rfl
      have hsz3 := Nat.le_trans hsz hb.size
      clear hb HW HBX
      cases ha : areC ns with
      | false =>
        have HK : Hid (k = 0) := by unfold Hid; rcases Nat.eq_zero_or_pos k with h | h
                                    · exact h
                                    · rw [(HPO.out h).1] at ha; cases ha
        have HN := Lib.hid (HNO.out (.inl ha))
        go_wp2_with fail
        go_ret
        refine HP.out _ _ ?_ HB3.out
        rw [HN.out]
        have h4 := HW3.out
        rw [HK.out] at h4 ⊢
        exact ((RowRd.of_ints (l := []) h4 (by simp) (by simp)).mono (fun a ha => by omega))
      | true =>
        go_wp2_with fail
        refine (HS0.out _ HB3.out).mono ?_
        rintro e w4 ⟨rfl, hb⟩
        have HB4 : Hid (Below w.heap.size w w4) := below_step HB3.out hb
        have HW4 := Lib.hid (own_kept hb HW3.out)
        have HBX4 := Lib.hid (HBX3.out.kept hb)
        have hsz4 := Nat.le_trans hsz3 hb.size
        clear hb HW3 HBX3 b3
        cases c with
        | false =>
          have HK : Hid (k = 0) := by unfold Hid; rcases Nat.eq_zero_or_pos k with h | h
                                      · exact h
                                      · cases (HPO.out h).2
          have HN := Lib.hid (HNO.out (.inr rfl))
          go_wp2_with fail
          go_ret
          refine HP.out _ _ ?_ HB4.out
          rw [HN.out]
          have h4 := HW4.out
          rw [HK.out] at h4 ⊢
          exact ((RowRd.of_ints (l := []) h4 (by simp) (by simp)).mono (fun a ha => by omega))
        | true =>
          obtain ⟨g, off, xs, Fk, rfl, _, hra, _, hca⟩ := (HNS.out.kept HB4.out).get HY.out
          obtain ⟨rfl, _⟩ := hra
          rw [show (Rep.str m).size = 1 from rfl] at hca
          have c0 := hca 0 _ rfl
          simp only [Nat.add_zero, Nat.mul_one] at c0
          clear hca
          have HCE : Hid (∀ W : World, Below w4.heap.size w4 W → W.cell? ⟨g, off + k, none⟩ = some (.string y)) := fun W hW => cell_kept hW c0
          have HCB : Hid (∀ W : World, Below w4.heap.size w4 W → W.cell? ⟨w.heap.size, 0, none⟩ = some (.slice B x.Links.length q)) := fun W hW => (HBX4.out.kept hW).cell 0 rfl
          have hgs : g < w4.heap.size := block_lt_of_cell c0
          clear c0
          have hnk : k ≤ 1000000000 := by omega
          have hNS2 : ∀ W : World, Below w.heap.size w W → W.cell? ⟨g, off + k, none⟩ = some (.string y) := fun W hW => by
            obtain ⟨g2, off2, xs2, Fk2, he2, _, hra2, _, hca2⟩ := (HNS.out.kept hW).get HY.out
            cases he2
            obtain ⟨rfl, _⟩ := hra2
            have c1 := hca2 0 _ rfl
            simpa [show (Rep.str m).size = 1 from rfl] using c1
          go_upto_region 5 with fail
          refine wp_region_held_drew (S := fun w' => w'.cell? ⟨g, off + k, none⟩ = some (.string y) ∧ w'.cell? ⟨w.heap.size, 0, none⟩ = some (.slice B x.Links.length q)) (by kernel_rfl) ⟨HCE.out _ ((Below.refl _ _).drew), HCB.out _ ((Below.refl _ _).drew)⟩ (fun hHeld => ?_)
          refine' wpAnyH_take (i := 0) (oi := _) (v := ?v1) rfl ?hs1 ?hf1 ?hr1 ?hQ1 (Or.inl ⟨?hw1, ?hy1⟩) hHeld ?rest1
          case hs1 => kernel_rfl
          case hf1 => kernel_rfl
          case hr1 => kernel_rfl
          case hQ1 => exact fun _ _ _ h => h
          case hw1 => kernel_rfl
          case hy1 => (intro w' hw'; go_simp; try with_reducible rfl)
          (try change wpAnyH _ _ _ _ _ _ _ (Act.put _ (some 22) _) _)
          try simp only [Act.put, List.setIfInBounds_toArray, List.set_cons_zero, List.set_cons_succ]
          refine' wpAnyH_take (i := 1) (oi := _) (v := ?v2) rfl ?hs2 ?hf2 ?hr2 ?hQ2 (Or.inl ⟨?hw2, ?hy2⟩) hHeld ?rest2
          case hs2 => kernel_rfl
          case hf2 => kernel_rfl
          case hr2 => kernel_rfl
          case hQ2 => exact fun _ _ _ h => h
          case hw2 => kernel_rfl
          case hy2 => (intro w' hw'; go_simp; try with_reducible rfl)
          (try change wpAnyH _ _ _ _ _ _ _ (Act.put _ (some 23) _) _)
          try simp only [Act.put, List.setIfInBounds_toArray, List.set_cons_zero, List.set_cons_succ]
          refine' wpAnyH_take (i := 2) (oi := _) (v := ?v3) rfl ?hs3 ?hf3 ?hr3 ?hQ3 (Or.inl ⟨?hw3, ?hy3⟩) hHeld ?rest3
          case hs3 => kernel_rfl
          case hf3 => kernel_rfl
          case hr3 => kernel_rfl
          case hQ3 => exact fun _ _ _ h => h
          case hw3 => kernel_rfl
          case hy3 => (intro w' hw'; go_simp; try with_reducible rfl)
          (try change wpAnyH _ _ _ _ _ _ _ (Act.put _ (some 24) _) _)
          try simp only [Act.put, List.setIfInBounds_toArray, List.set_cons_zero, List.set_cons_succ]
          refine' wpAnyH_take (i := 3) (oi := _) (v := ?v4) rfl ?hs4 ?hf4 ?hr4 ?hQ4 (Or.inl ⟨?hw4, ?hy4⟩) hHeld ?rest4
          case hs4 => kernel_rfl
          case hf4 => kernel_rfl
          case hr4 => kernel_rfl
          case hQ4 => exact fun _ _ _ h => h
          case hw4 => kernel_rfl
          case hy4 => (intro w' hw'; go_simp; try with_reducible rfl)
          (try change wpAnyH _ _ _ _ _ _ _ (Act.put _ (some 25) _) _)
          try simp only [Act.put, List.setIfInBounds_toArray, List.set_cons_zero, List.set_cons_succ]
          refine' wpAnyH_take (i := 4) (oi := _) (v := ?v5) rfl ?hs5 ?hf5 ?hr5 ?hQ5 (Or.inl ⟨?hw5, ?hy5⟩) hHeld ?rest5
          case hs5 => kernel_rfl
          case hf5 => kernel_rfl
          case hr5 => kernel_rfl
          case hQ5 => exact fun _ _ _ h => h
          case hw5 => kernel_rfl
          case hy5 => (intro w' hw'; have cA := hw'.1; have cB := hw'.2; clear hw'; go_simp; try with_reducible rfl)
          (try change wpAnyH _ _ _ _ _ _ _ (Act.put _ (some 26) _) _)
          try simp only [Act.put, List.setIfInBounds_toArray, List.set_cons_zero, List.set_cons_succ]
          refine' wpAnyH_take (i := 5) (oi := _) (v := ?v6) rfl ?hs6 ?hf6 ?hr6 ?hQ6 (Or.inl ⟨?hw6, ?hy6⟩) hHeld ?rest6
          case hs6 => kernel_rfl
          case hf6 => kernel_rfl
          case hr6 => kernel_rfl
          case hQ6 => exact fun _ _ _ h => h
          case hw6 => kernel_rfl
          case hy6 => (intro w' hw'; have cA := hw'.1; have cB := hw'.2; clear hw'; go_simp; try with_reducible rfl)
          (try change wpAnyH _ _ _ _ _ _ _ (Act.put _ (some 27) _) _)
          try simp only [Act.put, List.setIfInBounds_toArray, List.set_cons_zero, List.set_cons_succ]
          refine wpAnyH_ready (rs := [6]) (by kernel_rfl) (by simp) ?_
          refine AllReadyH.cons rfl (fun K hK => ?_) AllReadyH.nil
          go_simp
          go_at_call 83
          refine (HSV.out y _ HB4.out.drew).mono ?_
          rintro e w5 ⟨rfl, hb5⟩
          have hb45 : Below w4.heap.size w4 w5 := below_step ((Below.refl _ _).drew) hb5
          have HB5 := Lib.hid (HB4.out.trans (hb45.mono HB4.out.size))
          have HW5 := Lib.hid (own_kept hb45 HW4.out)
          have HBX5 := Lib.hid (HBX4.out.kept hb45)
          have hsz5 := Nat.le_trans hsz4 hb45.size
          clear hb5
          (try go_wp2_with fail)
          refine hK.out _ _ ⟨HCE.out _ hb45, HCB.out _ hb45⟩ (fun hHeld => ?_)
          clear hK K
          try simp only [Act.put, List.setIfInBounds_toArray, List.set_cons_zero, List.set_cons_succ]
          refine wpAnyH_ready (rs := [7]) (by kernel_rfl) (by simp) ?_
          refine AllReadyH.cons rfl (fun K hK => ?_) AllReadyH.nil
          go_simp
          refine hK.out _ _ ⟨HCE.out _ (hb45.alloc hb45.size _), HCB.out _ (hb45.alloc hb45.size _)⟩ (fun hHeld => ?_)
          clear hK K
          try simp only [Act.put, List.setIfInBounds_toArray, List.set_cons_zero, List.set_cons_succ]
          refine wpAnyH_ready (rs := [8]) (by kernel_rfl) (by simp) ?_
          refine AllReadyH.cons rfl (fun K hK => ?_) AllReadyH.nil
          refine step_append_int w5 rfl (.tmp 22) (.tmp 29) rfl (w.heap.size + 1) _ k (profTo ns x.Links k) (by simp [Act.eval]) HW5.out (vioN y x.Links) (by simp [Act.eval]) hnk hsz5 ?_
          intro v6 w6 hown6 hb6
          have HW6 := Lib.hid hown6
          have HB6 := Lib.hid (HB5.out.trans (hb6.mono (by omega)))
          have HBX6 : Hid (InC w6 w.heap.size #[.slice B x.Links.length q] 59) := (hb6.block _ (by omega)).trans HBX5.out
          have hsz6 := Nat.le_trans hsz5 hb6.size
          clear hown6 hb6
          refine hK.out _ _ ⟨(hNS2 w6 HB6.out), HBX6.out.cell 0 rfl⟩ (fun hHeld => ?_)
          clear hK K
          try simp only [Act.put, List.setIfInBounds_toArray, List.set_cons_zero, List.set_cons_succ]
          refine' wpAnyH_take (i := 9) (oi := _) (v := ?v7) rfl ?hs7 ?hf7 ?hr7 ?hQ7 (Or.inl ⟨?hw7, ?hy7⟩) hHeld ?rest7
          case hs7 => kernel_rfl
          case hf7 => kernel_rfl
          case hr7 => kernel_rfl
          case hQ7 => exact fun _ _ _ h => h
          case hw7 => kernel_rfl
          case hy7 => (intro w' hw'; go_simp; try with_reducible rfl)
          (try change wpAnyH _ _ _ _ _ _ _ (Act.put _ (some 5) _) _)
          try simp only [Act.put, List.setIfInBounds_toArray, List.set_cons_zero, List.set_cons_succ]
          refine wpAnyH_done ?hdone ?hq _
          case hdone => kernel_rfl
          go_wp2
          go_roundw
          case rel => exact ⟨k + 1, by omega, by go_num, by rw [HST.out]; exact HW6.out, HBX6.out, fun _ => ⟨ha, by first | rfl | trivial⟩, hsz6, HB6.out⟩
          case measure => simp [intOf]; omega
    · obtain rfl : k = ns.length := by omega
      have HN : Hid (profN ns x.Links = profTo ns x.Links ns.length) := by
        unfold Hid
        rcases Nat.eq_zero_or_pos ns.length with h | h
        · have ha : areC ns = false := by
            cases h2 : areC ns with
            | false => rfl
            | true => have := (areC_len h2).1; omega
          rw [HNO.out (.inl ha), h]; rfl
        · obtain ⟨h1, h2⟩ := HPO.out h
          exact HYE.out h1 h2
      have hlen := profTo_len (ns := ns) (l := x.Links) (Nat.le_refl _)
      have HLEN := Lib.hid hlen
      clear hlen
      go_wp2
      go_ret
      refine HP.out _ _ ?_ HBE.out
      rw [HN.out]
      have h4 := HW.out
      have h5 := RowRd.of_ints (w := w2) (base := w.heap.size + 1) (v := .slice A3 ns.length cap3) (l := profTo ns x.Links ns.length) (by rw [HLEN.out]; exact h4) (by rw [HLEN.out]; omega) HI.out
      exact h5.mono (fun a ha => by omega)
end Go.Proofs.YtcgmlhlnkbjfnaaGreatDoor

/- The program's counters: a row of function values, and what they count. -/
namespace Go.Proofs.YtcgmlhlnkbjfnaaGreatDoor
set_option maxRecDepth 100000
open Go.RowKit Go.Sort M
set_option linter.unusedVariables false
set_option linter.unusedSimpArgs false

theorem ownsMap_below {w w' : World} {k : TypeId} {b n : Nat} {D : DataW Unit} (h : w.ownsMap Tryz.prog k fR b n D) (hb : Below w.heap.size w w') : w'.ownsMap Tryz.prog k fR b n D := by
  obtain ⟨es, clock, h1, h2⟩ := h
  exact ⟨es, clock, (hb.block b (Array.getElem?_eq_some_iff.1 h1).1).trans h1, h2⟩
theorem Tryz.infoTInt10 : (Tryz.prog.info? 3).map (fun i => (i.zero, i.size, i.bytes)) = some (some (.int .i64 0), 1, 8) := by kernel_rfl
theorem Tryz.infoTFn : (Tryz.prog.info? 81).map (fun i => (i.zero, i.size, i.bytes)) = some (some .nilFunc, 1, 8) := by kernel_rfl
/-- What a function value has caught. -/
def capF (j : Nat) : Array Value := if j < 6 then #[.func (.func (cidN j)) #[] #[]] else #[]
theorem fnV_form (j : Nat) : fnV j = .func (.func (entF j)) (capF j) #[] := by
  unfold fnV entF capF
  split <;> rfl
/-- Function values by their numbers; none at ten. -/
def vF (j : Nat) : Value := if j < 10 then fnV j else .nilFunc
def Rep.fn : Rep Nat where
  size := 1
  rd := fun _ _ vs j _ => vs = [vF j]
  lab := fun _ j => j
  labv := fun _ j => j
  cnt := fun _ => 0
  cntv := fun _ => 0
  sz := fun _ => 0
  len := fun h => by rw [h]; rfl
  frame := fun h _ => h
  weak := fun h => h
  mono := fun h _ => h
  tight := fun h => h
theorem vF_lt {j : Nat} (h : j < 10) : vF j = .func (.func (entF j)) (capF j) #[] := by unfold vF; rw [if_pos h, fnV_form]
def ctrs (ns : List ByteArray) : List Nat := ns.map nix
theorem ctrs_len (ns : List ByteArray) : (ctrs ns).length = ns.length := List.length_map _
set_option maxHeartbeats 4000000 in
theorem implCtrs_any (m : Nat → ByteArray) (ns : List ByteArray) (A : Option Addr) (cap : Nat) (F : Addr → Prop) (w : World) (hC : areC ns = true) (hns : RowRd (Rep.str m) false w (.slice A ns.length cap) ns F) :
    Calls Tryz.prog 41 #[.slice A ns.length cap] w (OwnPost Rep.fn (ctrs ns) w) := by
  have HCT : Hid (∀ W, Calls Tryz.prog 87 #[] W fun e w' => (∃ B, e = .returned (.map (some B)) ∧ w'.ownsMap Tryz.prog 9 fR B 10 (dputN 10)) ∧ Below W.heap.size W w') := fun W => (implCounts_any W).mono fun e w' ⟨h1, h2, h3⟩ => ⟨⟨_, h1, h2⟩, h3⟩
  have HX : Hid (∀ k, k < ns.length → ∃ y, ns[k]? = some y) := fun k hk => ⟨_, List.getElem?_eq_getElem hk⟩
  have HNS := Lib.hid hns
  have HME : Hid (∀ k y, ns[k]? = some y → nix y < 10 ∧ y.size ≤ maxLen) := fun k y hk => by
    have h1 := (areC_mem hC hk).1
    have h2 := name_size h1
    rw [hasB_nix] at h1
    exact ⟨of_decide_eq_true h1, by unfold maxLen; omega⟩
  have HP : Hid (∀ u w', RowRd Rep.fn true w' u (ctrs ns) (fun a => w.heap.size ≤ a.block) → Below w.heap.size w w' → OwnPost Rep.fn (ctrs ns) w (.returned u) w') := fun u w' h1 h2 => ⟨u, rfl, h1, h2⟩
  have hml := areC_len hC
  have HPL := Lib.hid (ctrs_len ns)
  have H0 := Lib.hid (cpTo_zero 10 (ctrs ns))
  have HCA := Lib.hid (cpTo_all 10 (ctrs ns))
  have HCAT : Hid (∀ k, k < ns.length → (cpTo 10 (ctrs ns) k)[k]? = some 10) := fun k hk => cpTo_at _ _ _ (by rw [ctrs_len]; exact hk)
  have HCST : Hid (∀ k y, ns[k]? = some y → (cpTo 10 (ctrs ns) k).set k (nix y) = cpTo 10 (ctrs ns) (k + 1)) := fun k y hk => cpTo_step _ _ _ (by unfold ctrs; rw [List.getElem?_map, hk]; rfl)
  clear hns hC
  generalize hll : ns.length = n at *
  clear hll
  obtain ⟨i0, hi, hz0, hz1, hz2⟩ := info_parts Tryz.infoTFn
  go_enter Tryz.func41, Tryz.ntmps41
  go_wp2_with fail
  refine (HCT.out _).mono ?_
  rintro e w3 ⟨⟨Bm, rfl, hown⟩, hb⟩
  have HB3 := Lib.hid hb
  have hbm : Bm < w3.heap.size := hown.lt
  have HOW := Lib.hid hown
  clear hb hown HCT
  go_wp2_with (at_make; refine wpList_make_full _ rfl _ _ 61 rfl w3.heap.size 81 i0 .nilFunc 1 Tryz.underlying61 hi hz0 hz1 .i64 .i64 _ _ n rfl rfl rfl rfl (by rw [hz2]; omega) (by unfold maxLen; omega) (Nat.le_refl _) ?_; intro w4 hown4 hgrow4)
  have hb34 : Below w3.heap.size w3 w4 := (Below.refl _ _).grown hgrow4 (Nat.le_refl _) (fun _ h => by cases h)
  have HO4 : Hid (RowRd Rep.fn true w4 (.slice (some ⟨w3.heap.size, 0, none⟩) n n) (cpTo 10 (ctrs ns) 0) (fun a => w3.heap.size ≤ a.block)) := by
    unfold Hid
    rw [H0.out, HPL.out]
    rw [show (Value.cells .nilFunc) = #[.nilFunc] from rfl] at hown4
    have hlr : (List.replicate n (10 : Nat)).length = n := List.length_replicate
    refine (RowRd.of_flat (E := Rep.fn) (l := List.replicate n 10) (base := w3.heap.size) (e := 81) (cells := (madeCells #[.nilFunc] (n * 1)).toList) (by rw [hlr]; exact hown4) (by rw [hlr]; omega) ?_).mono (fun a ha => ha.1)
    intro k y hk
    rw [List.getElem?_replicate] at hk
    split at hk
    · cases hk
      refine ⟨[.nilFunc], ?_, rfl⟩
      intro j u hj
      have hjn : j < 1 := (List.getElem?_eq_some_iff.1 hj).1
      rw [show Rep.fn.size = 1 from rfl, made_at _ _ _ (by omega) (by decide), show (#[.nilFunc] : Array Value).size = 1 from rfl, show (k * 1 + j) % 1 = j by omega]
      simpa using hj
    · cases hk
  have HB4 : Hid (Below w.heap.size w w4) := HB3.out.trans (hb34.mono HB3.out.size)
  have HOW4 := Lib.hid (ownsMap_below HOW.out hb34)
  clear hown4 hgrow4 hb34 HOW
  go_wp2
  go_loopw [13] (fun i wr => ∃ (k : Nat), k ≤ n ∧ i = .int .i64 k ∧ RowRd Rep.fn true wr (.slice (some ⟨w3.heap.size, 0, none⟩) n n) (cpTo 10 (ctrs ns) k) (fun a => w3.heap.size ≤ a.block) ∧ wr.ownsMap Tryz.prog 9 fR Bm 10 (dputN 10) ∧ Below w.heap.size w wr) (fun i _ => n - (intOf i).toNat)
  case atStart => exact ⟨0, by omega, rfl, HO4.out, HOW4.out, HB4.out⟩
  case round =>
    obtain ⟨k, hk, rfl, hrow, hmap, hbe⟩ := hrel
    obtain ⟨w5, rfl⟩ : ∃ w5 : World, w5 = wr := ⟨_, rfl⟩
    have HBE := Lib.hid hbe
    have HMP := Lib.hid hmap
    have HRW := Lib.hid hrow.tight
    clear hbe hmap hrow
    by_cases hkl : k < n
    · obtain ⟨y, hy⟩ := HX.out k hkl
      obtain ⟨hnx, hys⟩ := HME.out k y hy
      have hlk := look_plain w5 Bm y hys HMP.out hnx
      rw [fnV_form] at hlk
      have HSX := Lib.hid (HCST.out k y hy)
      obtain ⟨g, off, xs, Fk, rfl, _, hra, _, hca⟩ := (HNS.out.kept HBE.out).get hy
      obtain ⟨rfl, _⟩ := hra
      rw [show (Rep.str m).size = 1 from rfl] at hca
      have c0 := hca 0 _ rfl
      simp only [Nat.add_zero, Nat.mul_one] at c0
      clear hca hy hys
      have hrow2 := HRW.out
      obtain ⟨g2, off2, ys, Fk2, hge, hrd, hel, hFk, hcl, hput⟩ := hrow2.open (HCAT.out k hkl)
      cases hge
      simp only [show Rep.fn.size = 1 from rfl, Nat.mul_one] at hel hcl hput
      simp only [Nat.zero_add] at hel hput
      have hrd2 : ys = [vF 10] := hrd
      subst hrd2
      have d0 := hel.cell 0 rfl
      have f0 := hel.free 0 (by decide)
      simp only [Nat.zero_add, Nat.add_zero] at d0 f0
      have hs0 := hel.set 0 (by decide) (.func (.func (entF (nix y))) (capF (nix y)) #[])
      simp only [List.set, Nat.zero_add, Nat.add_zero] at hs0
      have HBB := Lib.hid (HBE.out.setCell (p := ⟨w3.heap.size, k, none⟩) (by have := HB3.out.size; exact this) (.func (.func (entF (nix y))) (capF (nix y)) #[]))
      have HMM := Lib.hid (HMP.out.setCell (a := ⟨w3.heap.size, k, none⟩) (by show Bm ≠ w3.heap.size; omega) (.func (.func (entF (nix y))) (capF (nix y)) #[]))
      have HNEW := Lib.hid ((hput _ _ (nix y) (fun _ => False) hs0 (by show _ = [vF (nix y)]; rw [vF_lt hnx]) (fun a h => h.elim)).mono (fun a h => h.elim (fun h => h.1) (fun h => h.elim)))
      rw [HSX.out] at HNEW
      clear hput hel hs0 hrd hFk hcl hrow2
      generalize entF (nix y) = q1 at *
      generalize capF (nix y) = q2 at *
      go_wp2
      go_roundw
      case rel => exact ⟨k + 1, by omega, by go_num, HNEW.out, HMM.out, HBB.out⟩
      case measure => simp [intOf]; omega
    · obtain rfl : k = n := by omega
      have hrow := HRW.out
      have hca := HCA.out
      rw [HPL.out] at hca
      rw [hca] at hrow
      have HRR := Lib.hid hrow
      clear hrow hca
      go_wp2
      go_ret
      exact HP.out _ _ (HRR.out.mono (fun a ha => Nat.le_trans HB3.out.size ha.1)) HBE.out
/-- The counts of a candidate. -/
def cntsN (js : List Nat) (l : List DLink) : List Int := js.map fun j => cntN j l
theorem cntsN_len (js : List Nat) (l : List DLink) : (cntsN js l).length = js.length := List.length_map _
theorem profN_ctrs {ns : List ByteArray} {l : List DLink} (h : areC ns = true) (h2 : isCd l = true) : profN ns l = cntsN (ctrs ns) l := by
  rw [profN_yes h h2]
  unfold profTo cntsN ctrs
  rw [List.take_length, List.map_map]
  exact List.map_congr_left fun y _ => vioN_yes h2
theorem cntN_i64 {j : Nat} (hj : j < 10) (l : List DLink) (hl : l.length ≤ 1048576) : I64 (cntN j l) := by
  have h1 : ∀ P Q, mkC P Q (outT l) ≤ 9 := fun P Q => mkC_le P Q _
  have h2 : ∀ p : DLink → Bool, cntC p l ≤ l.length := fun p => by
    unfold cntC; split
    · exact List.countP_le_length
    · omega
  have h3 : brkC l ≤ l.length := by
    unfold brkC; split
    · unfold brkL insideL
      refine Nat.le_trans List.countP_le_length ?_
      rw [List.length_drop, List.length_take]
      omega
    · omega
  unfold cntN I64
  split
  · have := h1 nconsB vowB; omega
  · have := h1 consB nvowB; omega
  · have := h1 consB consB; omega
  · have := h1 anyB vobB; omega
  · have := h1 vobB edgB; omega
  · have := h1 nasB vlsB; omega
  · have := h2 delK; omega
  · have := h2 insK; omega
  · have := h2 vchK; omega
  · omega
  · omega
theorem entF_call (j : Nat) (hj : j < 10) : ∀ args w', (callFunc (entF j) args).run Tryz.prog w' = .ok (.enter (entF j) args) w' := by
  intro args w'
  obtain rfl | rfl | rfl | rfl | rfl | rfl | rfl | rfl | rfl | rfl : j = 0 ∨ j = 1 ∨ j = 2 ∨ j = 3 ∨ j = 4 ∨ j = 5 ∨ j = 6 ∨ j = 7 ∨ j = 8 ∨ j = 9 := by omega
  · exact enters_of Tryz.func123 (by kernel_rfl) rfl args w'
  · exact enters_of Tryz.func123 (by kernel_rfl) rfl args w'
  · exact enters_of Tryz.func123 (by kernel_rfl) rfl args w'
  · exact enters_of Tryz.func123 (by kernel_rfl) rfl args w'
  · exact enters_of Tryz.func123 (by kernel_rfl) rfl args w'
  · exact enters_of Tryz.func123 (by kernel_rfl) rfl args w'
  · exact enters_of Tryz.func129 (by kernel_rfl) rfl args w'
  · exact enters_of Tryz.func130 (by kernel_rfl) rfl args w'
  · exact enters_of Tryz.func131 (by kernel_rfl) rfl args w'
  · exact enters_of Tryz.func132 (by kernel_rfl) rfl args w'
theorem entA_cap (j : Nat) (v : Value) : (capF j).push (.agg #[v]) = entA j v := by
  unfold capF entA
  split <;> rfl
set_option maxHeartbeats 4000000 in
theorem implProfOf_any (js : List Nat) (hj : ∀ j ∈ js, j < 10) (A : Option Addr) (cap : Nat) (F : Addr → Prop) (x : DCandidate) (B : Option Addr) (q : Nat) (G : Addr → Prop) (w : World) (hn : js.length ≤ 1048576) (hl : x.Links.length ≤ 1048576) (hjs : RowRd Rep.fn false w (.slice A js.length cap) js F) (hv : RowRd rLink false w (.slice B x.Links.length q) x.Links G) (hT : FeatTab w) :
    Calls Tryz.prog 44 #[.slice A js.length cap, .agg #[.slice B x.Links.length q]] w (OwnPost Rep.int (cntsN js x.Links) w) := by
  have hq := hv.cap_le
  have HFN : Hid (∀ j, j < 10 → ∀ W, Below w.heap.size w W → Calls Tryz.prog (entF j) (entA j (.slice B x.Links.length q)) W fun e w' => e = .returned (.int .i64 (cntN j x.Links)) ∧ Below W.heap.size W w') := fun j hj W hW => fnV_any j hj x B q G W hl hq (hv.kept hW) (feat_below hT hW)
  have HX : Hid (∀ k, k < js.length → ∃ y, js[k]? = some y) := fun k hk => ⟨_, List.getElem?_eq_getElem hk⟩
  have HJS := Lib.hid hjs
  have HJ : Hid (∀ k y, js[k]? = some y → y < 10) := fun k y hk => hj y (List.mem_of_getElem? hk)
  have HIY : Hid (∀ j, j < 10 → I64 (cntN j x.Links)) := fun j hj => cntN_i64 hj _ hl
  have HP : Hid (∀ u w', RowRd Rep.int true w' u (cntsN js x.Links) (fun a => w.heap.size ≤ a.block) → Below w.heap.size w w' → OwnPost Rep.int (cntsN js x.Links) w (.returned u) w') := fun u w' h1 h2 => ⟨u, rfl, h1, h2⟩
  have HPL := Lib.hid (cntsN_len js x.Links)
  have H0 := Lib.hid (cpTo_zero (0 : Int) (cntsN js x.Links))
  have HCA := Lib.hid (cpTo_all (0 : Int) (cntsN js x.Links))
  have HCAT : Hid (∀ k, k < js.length → (cpTo (0 : Int) (cntsN js x.Links) k)[k]? = some 0) := fun k hk => cpTo_at _ _ _ (by rw [cntsN_len]; exact hk)
  have HCST : Hid (∀ k y, js[k]? = some y → (cpTo (0 : Int) (cntsN js x.Links) k).set k (cntN y x.Links) = cpTo (0 : Int) (cntsN js x.Links) (k + 1)) := fun k y hk => cpTo_step _ _ _ (by unfold cntsN; rw [List.getElem?_map, hk]; rfl)
  have HA : Hid (∀ o, Below w.heap.size w (w.alloc o)) := fun o => (Below.refl _ _).alloc (Nat.le_refl _) _
  have HA1 : Hid (InC (w.alloc (.cells #[.slice B x.Links.length q] 59)) w.heap.size #[.slice B x.Links.length q] 59) := heap_alloc_new _ _
  clear hjs hv hT hj hq
  generalize hll : js.length = n at *
  clear hll
  obtain ⟨i0, hi, hz0, hz1, hz2⟩ := info_parts Tryz.infoTInt10
  go_enter Tryz.func44, Tryz.ntmps44
  go_wp2_with (at_make; refine wpList_make_full _ rfl _ _ 44 rfl (w.heap.size + 1) 3 i0 (.int .i64 0) 1 Tryz.underlying44 hi hz0 hz1 .i64 .i64 _ _ n rfl rfl rfl rfl (by rw [hz2]; omega) (by unfold maxLen; omega) (by simp) ?_; intro w4 hown4 hgrow4)
  have hb34 : Below (w.heap.size + 1) (w.alloc (.cells #[.slice B x.Links.length q] 59)) w4 := (Below.refl _ _).grown hgrow4 (by simp) (fun _ h => by cases h)
  have HX4 : Hid (InC w4 w.heap.size #[.slice B x.Links.length q] 59) := HA1.out.keptB hb34 (by omega)
  have HO4 : Hid (RowRd Rep.int true w4 (.slice (some ⟨w.heap.size + 1, 0, none⟩) n n) (cpTo (0 : Int) (cntsN js x.Links) 0) (fun a => w.heap.size + 1 ≤ a.block)) := by
    unfold Hid
    rw [H0.out, HPL.out]
    rw [show (Value.cells (.int .i64 0)) = #[.int .i64 0] from rfl] at hown4
    have hlr : (List.replicate n (0 : Int)).length = n := List.length_replicate
    refine (RowRd.of_flat (E := Rep.int) (l := List.replicate n 0) (base := w.heap.size + 1) (e := 3) (cells := (madeCells #[.int .i64 0] (n * 1)).toList) (by rw [hlr]; first | exact hown4 | (show w4.ownsRow _ 3 1 _ _ _; simpa using hown4)) (by rw [hlr]; omega) ?_).mono (fun a ha => ha.1)
    intro k y hk
    rw [List.getElem?_replicate] at hk
    split at hk
    · cases hk
      refine ⟨[.int .i64 0], ?_, ⟨rfl, by unfold I64; omega⟩⟩
      intro j u hj
      have hjn : j < 1 := (List.getElem?_eq_some_iff.1 hj).1
      rw [show Rep.int.size = 1 from rfl, made_at _ _ _ (by omega) (by decide), show (#[.int .i64 0] : Array Value).size = 1 from rfl, show (k * 1 + j) % 1 = j by omega]
      simpa using hj
    · cases hk
  have HB4 : Hid (Below w.heap.size w w4) := (HA.out _).trans (hb34.mono (by omega))
  clear hown4 hgrow4 hb34
  go_wp2
  go_loopw [13] (fun i wr => ∃ (k : Nat), k ≤ n ∧ i = .int .i64 k ∧ RowRd Rep.int true wr (.slice (some ⟨w.heap.size + 1, 0, none⟩) n n) (cpTo (0 : Int) (cntsN js x.Links) k) (fun a => w.heap.size + 1 ≤ a.block) ∧ InC wr w.heap.size #[.slice B x.Links.length q] 59 ∧ Below w.heap.size w wr) (fun i _ => n - (intOf i).toNat)
  case atStart => exact ⟨0, by omega, rfl, HO4.out, HX4.out, HB4.out⟩
  case round =>
    obtain ⟨k, hk, rfl, hrow, hbox, hbe⟩ := hrel
    obtain ⟨w5, rfl⟩ : ∃ w5 : World, w5 = wr := ⟨_, rfl⟩
    have HBE := Lib.hid hbe
    have HBX := Lib.hid hbox
    have HRW := Lib.hid hrow.tight
    clear hbe hbox hrow
    by_cases hkl : k < n
    · obtain ⟨i, hy⟩ := HX.out k hkl
      have hi10 := HJ.out k i hy
      have HSX := Lib.hid (HCST.out k i hy)
      have HIQ := Lib.hid (HIY.out i hi10)
      obtain ⟨g, off, xs, Fk, rfl, _, hra, _, hca⟩ := (HJS.out.kept HBE.out).get hy
      have hra2 : xs = [vF i] := hra
      rw [vF_lt hi10] at hra2
      subst hra2
      rw [show Rep.fn.size = 1 from rfl] at hca
      have c0 := hca 0 _ rfl
      simp only [Nat.add_zero, Nat.mul_one] at c0
      have b5 := HBX.out.cell 0 rfl
      have HC := Lib.hid (HFN.out i hi10)
      have HE := Lib.hid (entF_call i hi10)
      have HEA := Lib.hid (entA_cap i (.slice B x.Links.length q))
      clear hca hy hra
      generalize cntN i x.Links = z at *
      generalize hq1 : entF i = q1 at *
      generalize hq2 : capF i = q2 at *
      generalize hq3 : entA i (.slice B x.Links.length q) = q3 at *
      clear hq1 hq2 hq3
      go_wp2_with fail
      rw [HE.out, Oper.upon_enter, HEA.out]
      refine (HC.out _ HBE.out).mono ?_
      rintro e w6 ⟨rfl, hb⟩
      have HB6 : Hid (Below w.heap.size w w6) := below_step HBE.out hb
      have HX6 := Lib.hid (HBX.out.kept hb)
      have hrow2 := HRW.out.kept hb
      clear hb c0 b5
      obtain ⟨g2, off2, ys, Fk2, hge, hrd, hel, hFk, hcl, hput⟩ := hrow2.open (HCAT.out k hkl)
      cases hge
      simp only [show Rep.int.size = 1 from rfl, Nat.mul_one] at hel hcl hput
      simp only [Nat.zero_add] at hel hput
      obtain ⟨rfl, _⟩ := id hrd
      have d0 := hel.cell 0 rfl
      have f0 := hel.free 0 (by decide)
      simp only [Nat.zero_add, Nat.add_zero] at d0 f0
      have hs0 := hel.set 0 (by decide) (.int .i64 z)
      simp only [List.set, Nat.zero_add, Nat.add_zero] at hs0
      have HBB := Lib.hid (HB6.out.setCell (p := ⟨w.heap.size + 1, k, none⟩) (by simp) (.int .i64 z))
      have HXX : Hid (InC (w6.setCell ⟨w.heap.size + 1, k, none⟩ (.int .i64 z)) w.heap.size #[.slice B x.Links.length q] 59) := HX6.out.other (p := ⟨w.heap.size + 1, k, none⟩) (by simp) _
      have HNEW := Lib.hid ((hput _ _ z (fun _ => False) hs0 (⟨rfl, HIQ.out⟩) (fun a h => h.elim)).mono (fun a h => h.elim (fun h => h.1) (fun h => h.elim)))
      rw [HSX.out] at HNEW
      clear hput hel hs0 hrd hFk hcl hrow2
      go_wp2
      go_roundw
      case rel => exact ⟨k + 1, by omega, by go_num, HNEW.out, HXX.out, HBB.out⟩
      case measure => simp [intOf]; omega
    · obtain rfl : k = n := by omega
      have hrow := HRW.out
      have hca := HCA.out
      rw [HPL.out] at hca
      rw [hca] at hrow
      have HRR := Lib.hid hrow
      clear hrow hca
      go_wp2
      go_ret
      exact HP.out _ _ (HRR.out.mono (fun a ha => by have := ha.1; omega)) HBE.out
theorem ctrs_lt {ns : List ByteArray} (h : areC ns = true) : ∀ j ∈ ctrs ns, j < 10 := by
  intro j hj
  unfold ctrs at hj
  obtain ⟨y, hy, rfl⟩ := List.mem_map.1 hj
  obtain ⟨k, hk⟩ := List.getElem?_of_mem hy
  have h1 := (areC_mem h hk).1
  rw [hasB_nix] at h1
  exact of_decide_eq_true h1
end Go.Proofs.YtcgmlhlnkbjfnaaGreatDoor

/- The text of a row: plain mathematics. -/
namespace Go.Proofs.YtcgmlhlnkbjfnaaGreatDoor
set_option maxRecDepth 100000
open Go.RowKit Go.Sort M Go.Lib
set_option linter.unusedVariables false
set_option linter.unusedSimpArgs false

def itoaB (z : Int) : ByteArray := ⟨(itoa z).toArray⟩
theorem itoaB_size (z : Int) (h0 : 0 ≤ z) (h1 : z ≤ 16) : (itoaB z).size ≤ 21 ∧ 1 ≤ (itoaB z).size := by
  have e : (itoaB z).size = (itoa z).length := by unfold itoaB; show (itoa z).toArray.size = _; rw [List.size_toArray]
  have h2 := itoa_length_le z (by omega) (by omega)
  rw [e]
  refine ⟨h2, ?_⟩
  obtain ⟨m, rfl⟩ : ∃ m : Nat, z = (m : Int) := ⟨z.toNat, by omega⟩
  rw [itoa_nonneg]
  by_cases h : m < 10
  · rw [decDigits_one h]; simp
  · rw [decDigits_two h (by omega)]; simp
/-- The texts of marks. -/
def txtL (m : List Int) : List ByteArray := m.map itoaB
theorem txtL_len (m : List Int) : (txtL m).length = m.length := List.length_map _
theorem txtL_at {m : List Int} {k : Nat} {z : Int} (h : m[k]? = some z) : (txtL m)[k]? = some (itoaB z) := by unfold txtL; rw [List.getElem?_map, h]; rfl
def numT (m : List Int) : ByteArray := joinN (txtL m) m.length
theorem joinN_one (l : List ByteArray) (x : ByteArray) (h : l[0]? = some x) : joinN l 1 = ⟨#[]⟩ ++ x := by
  unfold joinN
  rw [if_neg (Nat.lt_irrefl 0), List.getD_eq_getElem?_getD, h]; rfl
theorem joinN_more (l : List ByteArray) (k : Nat) (x : ByteArray) (hk : 0 < k) (h : l[k]? = some x) : joinN l (k + 1) = joinN l k ++ ⟨#[44]⟩ ++ x := by
  conv => lhs; unfold joinN
  rw [if_pos hk, List.getD_eq_getElem?_getD, h]; rfl
theorem joinT_size {m : List Int} (h : ∀ z ∈ m, 0 ≤ z ∧ z ≤ 16) : ∀ k, k ≤ m.length → (joinN (txtL m) k).size ≤ 22 * k ∧ (0 < k → 1 ≤ (joinN (txtL m) k).size)
  | 0, _ => by have : (joinN (txtL m) 0).size = 0 := rfl; omega
  | k + 1, hk => by
    have ih := joinT_size h k (by omega)
    obtain ⟨z, hz⟩ : ∃ z, m[k]? = some z := ⟨_, List.getElem?_eq_getElem (by omega)⟩
    have hzr := h z (List.mem_of_getElem? hz)
    have hs := itoaB_size z hzr.1 hzr.2
    rcases Nat.eq_zero_or_pos k with h0 | h0
    · subst h0
      rw [joinN_one _ _ (txtL_at hz), ByteArray.size_append]
      have : (⟨#[]⟩ : ByteArray).size = 0 := rfl
      omega
    · rw [joinN_more _ _ _ h0 (txtL_at hz), ByteArray.size_append, ByteArray.size_append]
      have : (⟨#[44]⟩ : ByteArray).size = 1 := rfl
      omega
theorem cntN_range {j : Nat} (hj : j < 10) (l : List DLink) (hl : l.length ≤ 16) : 0 ≤ cntN j l ∧ cntN j l ≤ 16 := by
  have h1 : ∀ P Q, mkC P Q (outT l) ≤ 9 := fun P Q => mkC_le P Q _
  have h2 : ∀ p : DLink → Bool, cntC p l ≤ l.length := fun p => by
    unfold cntC; split
    · exact List.countP_le_length
    · omega
  have h3 : brkC l ≤ l.length := by
    unfold brkC; split
    · unfold brkL insideL
      refine Nat.le_trans List.countP_le_length ?_
      rw [List.length_drop, List.length_take]
      omega
    · omega
  match j, hj with
  | 0, _ => have := h1 nconsB vowB; simp only [cntN]; omega
  | 1, _ => have := h1 consB nvowB; simp only [cntN]; omega
  | 2, _ => have := h1 consB consB; simp only [cntN]; omega
  | 3, _ => have := h1 anyB vobB; simp only [cntN]; omega
  | 4, _ => have := h1 vobB edgB; simp only [cntN]; omega
  | 5, _ => have := h1 nasB vlsB; simp only [cntN]; omega
  | 6, _ => have := h2 delK; simp only [cntN]; omega
  | 7, _ => have := h2 insK; simp only [cntN]; omega
  | 8, _ => have := h2 vchK; simp only [cntN]; omega
  | 9, _ => have := h3; simp only [cntN]; omega
  | k + 10, hk => omega
/-- The marks of a valid table: between 0 and 16, one to five of them. -/
theorem rows_marks {x : DTableau} {k : Nat} {p : DCandidate × List Int} (h : (rowsL x)[k]? = some p) : (∀ z ∈ p.2, 0 ≤ z ∧ z ≤ 16) ∧ 1 ≤ p.2.length ∧ p.2.length ≤ 5 ∧ isCd p.1.Links = true := by
  obtain ⟨ht, h1, h2⟩ := rowsL_of h
  have hk : k < x.Rows.length := (List.getElem?_eq_some_iff.1 h1).1
  have h3 := isTab_row ht hk
  rw [rowAt_of h1 h2] at h3
  obtain ⟨hc, _, hm⟩ := rowOk_parts h3
  have ha := (headT_parts (headT_of ht)).1
  have hal := areC_len ha
  rw [profN_ctrs ha hc] at hm
  have hl16 : p.1.Links.length ≤ 16 := by
    unfold isCd at hc
    simp only [Bool.and_eq_true, decide_eq_true_eq] at hc
    omega
  refine ⟨fun z hz => ?_, ?_, ?_, hc⟩
  · rw [hm] at hz
    unfold cntsN at hz
    obtain ⟨j, hj, rfl⟩ := List.mem_map.1 hz
    exact cntN_range (ctrs_lt ha j hj) _ hl16
  · rw [hm, cntsN_len, ctrs_len]; omega
  · rw [hm, cntsN_len, ctrs_len]; omega
/-- The text of the i-th row. -/
def fmtR (x : DTableau) (i : Int) : ByteArray := if 0 ≤ i then (match (rowsL x)[i.toNat]? with
  | some p => (⟨(fmtC p.1.Links).toArray⟩ : ByteArray) ++ ⟨#[32]⟩ ++ numT p.2
  | none => ⟨#[]⟩) else ⟨#[]⟩
theorem fmtR_neg {x : DTableau} {i : Int} (h : ¬ 0 ≤ i) : fmtR x i = ⟨#[]⟩ := by unfold fmtR; rw [if_neg h]
theorem fmtR_out {x : DTableau} {i : Int} (h : (rowsL x).length ≤ i.toNat) : fmtR x i = ⟨#[]⟩ := by
  unfold fmtR
  split
  · rw [List.getElem?_eq_none h]
  · rfl
theorem fmtR_at {x : DTableau} {k : Nat} {p : DCandidate × List Int} (h : (rowsL x)[k]? = some p) : fmtR x (k : Int) = (⟨(fmtC p.1.Links).toArray⟩ : ByteArray) ++ ⟨#[32]⟩ ++ numT p.2 := by
  unfold fmtR
  rw [if_pos (by omega), Int.toNat_natCast, h]
theorem add_anyT (t u : ByteArray) (h : t.size + u.size ≤ 1000) (w : World) : (Op.stringOp .add t u).run Tryz.prog w = .ok (.string (t ++ u)) w := run_string_add_sum _ _ _ (by omega)
theorem fmtC_size (l : List DLink) (h : isCd l = true) : (⟨(fmtC l).toArray⟩ : ByteArray).size ≤ 40 := by
  have hl16 : l.length ≤ 16 := by
    unfold isCd at h
    simp only [Bool.and_eq_true, decide_eq_true_eq] at h
    omega
  have h2 := ftC_len l
  show (fmtC l).toArray.size ≤ 40
  rw [List.size_toArray]
  unfold fmtC
  rw [if_pos h]
  by_cases hn : l = []
  · rw [if_pos hn]
    show ([110, 111, 110, 101] : List UInt8).length ≤ 40
    decide
  · rw [if_neg hn]; omega
end Go.Proofs.YtcgmlhlnkbjfnaaGreatDoor
