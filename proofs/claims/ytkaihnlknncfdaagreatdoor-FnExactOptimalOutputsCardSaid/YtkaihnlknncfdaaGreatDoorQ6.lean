/- Merged: AppI Td11 Intd Se11 Sh N2v So Ms8 Ms9. -/
import Derived.Test.YtkaihnlknncfdaaGreatDoorRows
import Derived.WalkKit
import Derived.Outline
import Derived.Maps.AppendAt
import Derived.Lib.Hide
import Derived.Test.YtkaihnlknncfdaaGreatDoorQ4
import Derived.Test.YtkaihnlknncfdaaGreatDoorQ1
import Derived.BigQuiet
import Derived.Lib.QuietBelow
import Derived.Laws.IdiomStrings
import Derived.Lib.Slices
import Derived.Test.YtkaihnlknncfdaaGreatDoorQ3
import Derived.LoopN
import Derived.BigRegion
/- Appending one number to a row of numbers that the call made: a law for the walk. -/
namespace Go.Proofs.YtkaihnlknncfdaaGreatDoor
set_option maxRecDepth 100000
open Go.RowKit
def cellsI (l : List Int) : List Value := l.map fun z => .int .i64 z
theorem cellsI_len (l : List Int) : (cellsI l).length = l.length := by simp [cellsI]
theorem cellsI_append (a b : List Int) : cellsI (a ++ b) = cellsI a ++ cellsI b := by simp [cellsI]
theorem cellsI_at (l : List Int) (k : Nat) (h : k < l.length) : (cellsI l)[k]? = some (.int .i64 (l.getD k 0)) := by
  unfold cellsI; rw [List.getElem?_map, List.getElem?_eq_getElem h]; simp [h]
theorem Tryz.info3i : (Tryz.prog.info? 3).map (fun i => (i.zero, i.size, i.bytes)) = some (some (.int .i64 0), 1, 8) := by kernel_rfl
theorem wpList_append_int {ops : Array Oper} {rest : List Oper} {o : Oper} {a : Act} {Q : Exit → Act → World → Prop} (w : World) (hgd : o.guard = none) (s x : Operand)
    (ho : o.op = .call { callee := .builtin .append, args := #[s, x], argTypes := #[27, 27] })
    (base : Nat) (v : Value) (n : Nat) (l : List Int) (hs : a.eval s = v) (hown : w.ownsRow base 3 1 v n (cellsI l)) (b : Int)
    (hx : a.eval x = .slice (some ⟨w.heap.size, 0, none⟩) 1 1) (hn : n ≤ 1000000000) (hbase : base ≤ w.heap.size)
    (h : ∀ v' w', w'.ownsRow base 3 1 v' (n + 1) (cellsI (l ++ [b])) → Below base w w' → wpList Tryz.prog ops Q rest (a.put o.dst v') w') :
    wpList Tryz.prog ops Q (o :: rest) a (w.alloc (.cells #[.int .i64 b] 3)) := by
  obtain ⟨i0, hi, hz0, hz1, hz2⟩ := info_parts Tryz.info3i
  refine wpList_append_own (w.alloc (.cells #[.int .i64 b] 3)) hgd s x 27 ho base 3 i0 (.int .i64 0) 1 8 Tryz.underlying27 hi hz0 hz1 hz2 rfl (by decide) v n (cellsI l) hs (hown.alloc _) ⟨w.heap.size, 0, none⟩ 1 1 [.int .i64 b] hx rfl (cell_one_new _ _ _)
    (fun u hu => by simp at hu; subst hu; rfl) (by unfold maxLen; omega) (by omega) (by simp; omega) ?_
  intro v' w' h1 h2 _
  refine h v' w' (by rw [cellsI_append]; exact h1) ?_
  exact ((Below.refl base w).alloc hbase _).grown h2 (by simp; omega) (fun q hq => (hown.lt q hq).1)
end Go.Proofs.YtkaihnlknncfdaaGreatDoor

/- The first rows of all profiles: plain mathematics. -/
namespace Go.Proofs.YtkaihnlknncfdaaGreatDoor
set_option maxRecDepth 100000
open Go.RowKit Go.Sort M
set_option linter.unusedVariables false
set_option linter.unusedSimpArgs false

/-- The k-th row's marks stand among those of the first j places of l. -/
def seenB (x : DTableau) (l : List Int) (k j : Nat) : Bool := (l.take j).any fun d => decide (x.Marks.getD d.toNat [] = x.Marks.getD k [])
theorem seenB_zero (x : DTableau) (l : List Int) (k : Nat) : seenB x l k 0 = false := rfl
theorem seenB_step {x : DTableau} {l : List Int} {k j : Nat} {d : Int} (h : l[j]? = some d) : seenB x l k (j + 1) = (seenB x l k j || decide (x.Marks.getD d.toNat [] = x.Marks.getD k [])) := by
  unfold seenB
  rw [List.take_add_one, h, List.any_append]
  simp
def distTo (x : DTableau) : Nat → List Int
  | 0 => []
  | k + 1 => if seenB x (distTo x k) k (distTo x k).length = true then distTo x k else distTo x k ++ [(k : Int)]
theorem distTo_mem (x : DTableau) : ∀ (k : Nat) (d : Int), d ∈ distTo x k → 0 ≤ d ∧ d < (k : Int)
  | 0, d, h => by simp [distTo] at h
  | k + 1, d, h => by
    unfold distTo at h
    split at h
    · have := distTo_mem x k d h; omega
    · rw [List.mem_append, List.mem_singleton] at h
      rcases h with h | h
      · have := distTo_mem x k d h; omega
      · omega
theorem distTo_len (x : DTableau) : ∀ k, (distTo x k).length ≤ k
  | 0 => by simp [distTo]
  | k + 1 => by
    have := distTo_len x k
    unfold distTo
    split
    · omega
    · rw [List.length_append, List.length_singleton]; omega
theorem distTo_yes {x : DTableau} {k : Nat} (h : seenB x (distTo x k) k (distTo x k).length = true) : distTo x (k + 1) = distTo x k := by rw [distTo, if_pos h]
theorem distTo_no {x : DTableau} {k : Nat} (h : seenB x (distTo x k) k (distTo x k).length = false) : distTo x (k + 1) = distTo x k ++ [(k : Int)] := by rw [distTo, if_neg (by rw [h]; simp)]
def distL (x : DTableau) : List Int := distTo x (rowsL x).length
theorem distL_no {x : DTableau} (h : isTab x = false) : distL x = [] := by unfold distL; rw [rowsL_no h]; rfl
theorem distL_yes {x : DTableau} (h : isTab x = true) : distL x = distTo x x.Rows.length := by unfold distL; rw [rowsL_len h]
theorem dist_i64 (x : DTableau) (k : Nat) (hk : k ≤ 1000000000) : ∀ z ∈ distTo x k, I64 z := fun z hz => by have := distTo_mem x k z hz; unfold I64; omega
theorem cellsI_N11 (l : List Int) : cellsI l = cellsN l := rfl
/-- An own row of numbers, laid open. -/
theorem own_ints {w : World} {base : Nat} {u : Value} {l : List Int} (h : w.ownsRow base 3 1 u l.length (cellsI l)) (hm : l.length ≤ 9223372036854775807) (hz : ∀ z ∈ l, I64 z) : RowRd Rep.int true w u l (fun a => base ≤ a.block) := RowRd.of_ints h hm hz
theorem own_keepI {w w' : World} {base : Nat} {u : Value} {n : Nat} {xs : List Value} (hb : Below w.heap.size w w') (h : w.ownsRow base 3 1 u n xs) : w'.ownsRow base 3 1 u n xs := by
  obtain ⟨h1, h2⟩ := h
  refine ⟨h1, ?_⟩
  rcases h2 with h2 | ⟨g, cap, cur, hv, hg, hh, r⟩
  · exact Or.inl h2
  · exact Or.inr ⟨g, cap, cur, hv, hg, (hb.block g (Array.getElem?_eq_some_iff.1 hh).1).trans hh, r⟩
theorem own_formI {w : World} {base n : Nat} {u : Value} {c : List Value} (h : w.ownsRow base 3 1 u n c) : ∃ A cap, u = .slice A n cap := by
  rcases h.2 with ⟨rfl, hn⟩ | ⟨g, cap, cur, rfl, _⟩
  · exact ⟨none, 0, by rw [hn]⟩
  · exact ⟨_, _, rfl⟩
def IntPost11 (l : List Int) (w : World) (e : Ending) (w' : World) : Prop := ∃ v, e = .returned v ∧ RowRd Rep.int true w' v l (fun a => w.heap.size ≤ a.block) ∧ Below w.heap.size w w'
end Go.Proofs.YtkaihnlknncfdaaGreatDoor

/- Lists that differ at a place. -/
namespace Go.Proofs.YtkaihnlknncfdaaGreatDoor
set_option maxRecDepth 100000
open Go.RowKit
set_option linter.unusedVariables false
set_option linter.unusedSimpArgs false

theorem ints_differ {l m : List Int} {k : Nat} {x y : Int} (h1 : l[k]? = some x) (h2 : m[k]? = some y) (h : ¬ x = y) : ¬ l = m := fun e => by
  subst e
  rw [h1] at h2
  exact h (Option.some.inj h2)
theorem list_same {α : Type} {l m : List α} (hl : l.length = m.length) (h : ∀ k, k < l.length → l[k]? = m[k]?) : l = m := by
  apply List.ext_getElem?
  intro k
  by_cases hk : k < l.length
  · exact h k hk
  · rw [List.getElem?_eq_none (by omega), List.getElem?_eq_none (by omega)]
end Go.Proofs.YtkaihnlknncfdaaGreatDoor

/- Rows of numbers compared: what the model's and the program's comparisons answer. -/
namespace Go.Proofs.YtkaihnlknncfdaaGreatDoor
set_option maxRecDepth 100000
open Go.RowKit Go.Sort M
set_option linter.unusedVariables false
set_option linter.unusedSimpArgs false

set_option maxHeartbeats 1000000 in
theorem specSame11_any (v u : Value) (l m : List Int) (F G : Addr → Prop) (w : World) (hv : RowRd Rep.int false w v l F) (hu : RowRd Rep.int false w u m G) :
    Calls Tryz.prog 131 #[v, u] w fun e w' => e = .returned (.bool (decide (l = m))) ∧ Below w.heap.size w w' := by
  obtain ⟨A, cap, rfl⟩ := hv.form
  obtain ⟨A2, cap2, rfl⟩ := hu.form
  have hmx := hv.max
  have hmy := hu.max
  have HV := Lib.hid hv
  have HU := Lib.hid hu
  clear hv hu
  have HX : Hid (∀ k, k < l.length → ∃ x, l[k]? = some x) := fun k hk => ⟨_, List.getElem?_eq_getElem hk⟩
  have HY : Hid (∀ k, k < m.length → ∃ x, m[k]? = some x) := fun k hk => ⟨_, List.getElem?_eq_getElem hk⟩
  have HD : Hid (∀ (k : Nat) (x y : Int), l[k]? = some x → m[k]? = some y → ¬ x = y → ¬ l = m) := fun k x y h1 h2 h => ints_differ h1 h2 h
  have HL : Hid (¬ l.length = m.length → ¬ l = m) := fun h e => h (by rw [e])
  have HALL : Hid (l.length = m.length → (∀ k, k < l.length → l[k]? = m[k]?) → l = m) := list_same
  have HR : Hid ((l = m → decide (l = m) = true) ∧ (¬ l = m → decide (l = m) = false)) := ⟨fun h => decide_eq_true h, fun h => decide_eq_false h⟩
  generalize decide (l = m) = r at *
  generalize hln : l.length = n at *
  generalize hlm : m.length = n2 at *
  clear hln hlm
  go_enter Tryz.func131, Tryz.ntmps131
  by_cases hN : n = n2
  case neg =>
    have hN2 : ¬ (n : Int) = (n2 : Int) := by omega
    have HF := Lib.hid (HR.out.2 (HL.out hN))
    go_wp2
    go_ret
    exact ⟨ret_bool HF.out.symm, Below.refl _ _⟩
  subst hN
  go_wp2
  go_loopw [5] (fun i wr => ∃ (k : Nat), k ≤ n ∧ i = .int .i64 k ∧ Hid (∀ j, j < k → l[j]? = m[j]?) ∧ Below w.heap.size w wr) (fun i _ => n - (intOf i).toNat)
  case atStart => exact ⟨0, by omega, rfl, fun j hj => by omega, Below.refl _ _⟩
  case round =>
    obtain ⟨k, hk, rfl, hall, hbe⟩ := hrel
    have HBE := Lib.hid hbe
    clear hbe
    by_cases hkl : k < n
    · obtain ⟨x, hx⟩ := HX.out k hkl
      obtain ⟨y, hy⟩ := HY.out k hkl
      obtain ⟨g, off, xs, Fk, rfl, _, hrx, _, hcx⟩ := (HV.out.kept HBE.out).get hx
      obtain ⟨g2, off2, ys, Gk, rfl, _, hry, _, hcy⟩ := (HU.out.kept HBE.out).get hy
      obtain ⟨rfl, _⟩ := id hrx
      obtain ⟨rfl, _⟩ := id hry
      have c0 := hcx 0 _ rfl
      have d0 := hcy 0 _ rfl
      simp only [show Rep.int.size = 1 from rfl, Nat.mul_one, Nat.add_zero] at c0 d0
      have HDK := Lib.hid (HD.out k x y hx hy)
      have HEQ : Hid (x = y → ∀ j, j < k + 1 → l[j]? = m[j]?) := fun e j hj => by
        by_cases hjk : j = k
        · subst hjk; rw [hx, hy, e]
        · exact hall.out j (by omega)
      clear hcx hcy hrx hry hx hy
      by_cases hxy : x = y
      · have HE2 := Lib.hid (HEQ.out hxy)
        subst hxy
        go_wp2
        go_quiet (fail)
        go_wp2
        go_roundw
        case rel => exact ⟨k + 1, by omega, by go_num, HE2, ⟨HBE.out.os, HBE.out.tape, HBE.out.output, HBE.out.size, HBE.out.block⟩⟩
        case measure => simp [intOf]; omega
      · have HF := Lib.hid (HR.out.2 (HDK.out hxy))
        go_wp2
        go_quiet (fail)
        go_wp2
        go_ret
        exact ⟨ret_bool HF.out.symm, ⟨HBE.out.os, HBE.out.tape, HBE.out.output, HBE.out.size, HBE.out.block⟩⟩
    · obtain rfl : k = n := by omega
      have HF := Lib.hid (HR.out.1 (HALL.out (by trivial) (fun j hj => hall.out j hj)))
      go_wp2
      go_ret
      exact ⟨ret_bool HF.out.symm, HBE.out⟩
theorem specL11_any (v u : Value) (l m : List Int) (F G : Addr → Prop) (w : World) (hv : RowRd Rep.int false w v l F) (hu : RowRd Rep.int false w u m G) :
    Calls Tryz.prog 88 #[v, u] w fun e w' => e = .returned (.bool (decide (l = m))) ∧ Below w.heap.size w w' := by
  have HC := Lib.hid (specSame11_any v u l m F G w hv hu)
  clear hv hu
  generalize decide (l = m) = r at *
  go_enter Tryz.func88, Tryz.ntmps88
  go_wp2_with fail
  refine HC.out.mono ?_
  rintro e w1 ⟨rfl, hb⟩
  have HB := Lib.hid hb
  clear hb
  go_wp2
  go_ret
  exact ⟨rfl, HB.out⟩
set_option maxHeartbeats 1000000 in
theorem sliceEq_any (v u : Value) (l m : List Int) (F G : Addr → Prop) (w : World) (hv : RowRd Rep.int false w v l F) (hu : RowRd Rep.int false w u m G) :
    Calls Tryz.prog 91 #[v, u] w fun e w' => e = .returned (.bool (decide (l = m))) ∧ Below w.heap.size w w' := by
  obtain ⟨A, cap, rfl⟩ := hv.form
  obtain ⟨A2, cap2, rfl⟩ := hu.form
  have hmx := hv.max
  have hmy := hu.max
  have HV := Lib.hid hv
  have HU := Lib.hid hu
  clear hv hu
  have HX : Hid (∀ k, k < l.length → ∃ x, l[k]? = some x) := fun k hk => ⟨_, List.getElem?_eq_getElem hk⟩
  have HY : Hid (∀ k, k < m.length → ∃ x, m[k]? = some x) := fun k hk => ⟨_, List.getElem?_eq_getElem hk⟩
  have HD : Hid (∀ (k : Nat) (x y : Int), l[k]? = some x → m[k]? = some y → ¬ x = y → ¬ l = m) := fun k x y h1 h2 h => ints_differ h1 h2 h
  have HL : Hid (¬ l.length = m.length → ¬ l = m) := fun h e => h (by rw [e])
  have HALL : Hid (l.length = m.length → (∀ k, k < l.length → l[k]? = m[k]?) → l = m) := list_same
  have HR : Hid ((l = m → decide (l = m) = true) ∧ (¬ l = m → decide (l = m) = false)) := ⟨fun h => decide_eq_true h, fun h => decide_eq_false h⟩
  generalize decide (l = m) = r at *
  generalize hln : l.length = n at *
  generalize hlm : m.length = n2 at *
  clear hln hlm
  go_enter Tryz.func91, Tryz.ntmps91
  by_cases hN : n = n2
  case neg =>
    have hN2 : ¬ (n : Int) = (n2 : Int) := by omega
    have HF := Lib.hid (HR.out.2 (HL.out hN))
    go_wp2
    go_ret
    exact ⟨ret_bool HF.out.symm, Below.refl _ _⟩
  subst hN
  go_wp2
  go_loopw [13] (fun i wr => ∃ (k : Nat), k ≤ n ∧ i = .int .i64 k ∧ Hid (∀ j, j < k → l[j]? = m[j]?) ∧ Below w.heap.size w wr) (fun i _ => n - (intOf i).toNat)
  case atStart => exact ⟨0, by omega, rfl, fun j hj => by omega, Below.refl _ _⟩
  case round =>
    obtain ⟨k, hk, rfl, hall, hbe⟩ := hrel
    have HBE := Lib.hid hbe
    clear hbe
    by_cases hkl : k < n
    · obtain ⟨x, hx⟩ := HX.out k hkl
      obtain ⟨y, hy⟩ := HY.out k hkl
      obtain ⟨g, off, xs, Fk, rfl, _, hrx, _, hcx⟩ := (HV.out.kept HBE.out).get hx
      obtain ⟨g2, off2, ys, Gk, rfl, _, hry, _, hcy⟩ := (HU.out.kept HBE.out).get hy
      obtain ⟨rfl, _⟩ := id hrx
      obtain ⟨rfl, _⟩ := id hry
      have c0 := hcx 0 _ rfl
      have d0 := hcy 0 _ rfl
      simp only [show Rep.int.size = 1 from rfl, Nat.mul_one, Nat.add_zero] at c0 d0
      have HDK := Lib.hid (HD.out k x y hx hy)
      have HEQ : Hid (x = y → ∀ j, j < k + 1 → l[j]? = m[j]?) := fun e j hj => by
        by_cases hjk : j = k
        · subst hjk; rw [hx, hy, e]
        · exact hall.out j (by omega)
      clear hcx hcy hrx hry hx hy
      by_cases hxy : x = y
      · have HE2 := Lib.hid (HEQ.out hxy)
        subst hxy
        go_wp2
        go_quiet (fail)
        go_wp2
        go_roundw
        case rel => exact ⟨k + 1, by omega, by go_num, HE2, ⟨HBE.out.os, HBE.out.tape, HBE.out.output, HBE.out.size, HBE.out.block⟩⟩
        case measure => simp [intOf]; omega
      · have HF := Lib.hid (HR.out.2 (HDK.out hxy))
        go_wp2
        go_quiet (fail)
        go_wp2
        go_ret
        exact ⟨ret_bool HF.out.symm, ⟨HBE.out.os, HBE.out.tape, HBE.out.output, HBE.out.size, HBE.out.block⟩⟩
    · obtain rfl : k = n := by omega
      have HF := Lib.hid (HR.out.1 (HALL.out (by trivial) (fun j hj => hall.out j hj)))
      go_wp2
      go_ret
      exact ⟨ret_bool HF.out.symm, HBE.out⟩
end Go.Proofs.YtkaihnlknncfdaaGreatDoor

/- The model's HasFeature: what it answers. -/
namespace Go.Proofs.YtkaihnlknncfdaaGreatDoor
set_option maxRecDepth 100000
open Go.RowKit

set_option maxHeartbeats 400000 in
theorem specHas_any (x f : Int) (w : World) :
    Calls Tryz.prog 142 #[.int .u8 x, .int .i64 f] w fun e w' => e = .returned (.bool (hasF x f)) ∧ w = w' := by
  go_enter Tryz.func142, Tryz.ntmps142
  go_wp2
  all_goals
    go_ret
    refine ⟨ret_bool ?_, rfl⟩
    unfold hasF
    simp_all
end Go.Proofs.YtkaihnlknncfdaaGreatDoor

/- The model's IsVowelAt: what they answer. -/
namespace Go.Proofs.YtkaihnlknncfdaaGreatDoor
set_option maxRecDepth 100000
open Go.RowKit M

theorem specVow_any (s : ByteArray) (i : Int) (w : World) :
    Calls Tryz.prog 140 #[.string s, .int .i64 i] w fun e w' => e = .returned (.bool (vowAt s i)) ∧ w = w' := by
  by_cases h : 0 ≤ i ∧ i < (s.size : Int)
  · obtain ⟨k, rfl⟩ := Int.eq_ofNat_of_zero_le h.1
    have hk : k < s.size := by omega
    have HE := Lib.hid (vowAt_in s k hk)
    have HB := Lib.hid (bAt_in s k hk)
    have hk2 : (k : Int) < (s.size : Int) := h.2
    have hk0 : (0 : Int) ≤ (k : Int) := h.1
    clear h
    go_enter Tryz.func140, Tryz.ntmps140
    go_wp2_with fail
    refine (specHas_any _ _ _).mono ?_
    rintro e w2 ⟨rfl, rfl⟩
    go_wp2
    go_ret
    exact ⟨ret_bool (by rw [HE.out, ← HB.out]), rfl⟩
  · have HE : Hid (vowAt s i = false) := by
      unfold Hid vowAt
      by_cases h0 : 0 ≤ i
      · have h2 : ¬ i < (s.size : Int) := fun h1 => h ⟨h0, h1⟩
        simp [h2]
      · simp [h0]
    by_cases h0 : 0 ≤ i
    · have h2 : ¬ i < (s.size : Int) := fun h1 => h ⟨h0, h1⟩
      clear h
      go_enter Tryz.func140, Tryz.ntmps140
      go_wp2
      go_ret
      exact ⟨ret_bool HE.out.symm, rfl⟩
    · clear h
      go_enter Tryz.func140, Tryz.ntmps140
      go_wp2
      go_ret
      exact ⟨ret_bool HE.out.symm, rfl⟩
end Go.Proofs.YtkaihnlknncfdaaGreatDoor

/- The model's IsObstruent: what it answers. -/
namespace Go.Proofs.YtkaihnlknncfdaaGreatDoor
set_option maxRecDepth 100000
open Go.RowKit

theorem specIsObs_any (x : Int) (w : World) :
    Calls Tryz.prog 143 #[.int .u8 x] w fun e w' => e = .returned (.bool (isObs x)) ∧ w = w' := by
  go_enter Tryz.func143, Tryz.ntmps143
  go_wp2
  all_goals
    go_ret
    refine ⟨ret_bool ?_, rfl⟩
    unfold isObs
    simp_all
end Go.Proofs.YtkaihnlknncfdaaGreatDoor

/- The model's marks of forms: what they answer. -/
namespace Go.Proofs.YtkaihnlknncfdaaGreatDoor
set_option maxRecDepth 100000
open Go.RowKit M

theorem specVob_any (x : Int) (w : World) :
    Calls Tryz.prog 141 #[.int .u8 x] w fun e w' => e = .returned (.bool (vobB x)) ∧ w = w' := by
  go_enter Tryz.func141, Tryz.ntmps141
  go_wp2_with (first | (go_at_call 143; refine (specIsObs_any _ _).mono ?_; rintro e w1 ⟨rfl, rfl⟩) | (go_at_call 142; refine (specHas_any _ _ _).mono ?_; rintro e w1 ⟨rfl, rfl⟩))
  all_goals
    go_ret
    refine ⟨ret_bool ?_, rfl⟩
    unfold vobB
    simp_all

set_option maxHeartbeats 1600000 in
theorem specOns_any (s : ByteArray) (w : World) (hs : s.size ≤ maxLen) :
    Calls Tryz.prog 115 #[.string s] w fun e w' => e = .returned (.int .i64 (mkC nconsB vowB s)) ∧ w = w' := by
  have HM := Lib.hid hs
  unfold maxLen at hs
  by_cases hf : isFm s = true
  · have HE := Lib.hid (ons_mk s hf)
    have h8 := isFm_size hf
    go_enter Tryz.func115, Tryz.ntmps115
    go_wp2
    go_loop [3, 4] (fun n i => ∃ (j : Nat), (j ≤ s.size) ∧ i = .int .i64 j ∧ n = .int .i64 (cntP (onsP s) j)) (fun _ i => s.size - (intOf i).toNat)
    case atStart => exact ⟨0, by omega, rfl, by simp [cntP]⟩
    case round =>
      obtain ⟨j, hj, rfl, rfl⟩ := hrel
      have hcl := cntP_le (onsP s) j
      by_cases hz : j = 0
      · subst hz
        by_cases hlt : 0 < s.size
        · go_wp2_with (first | (go_at_call 85; refine (specFm_any s _ HM.out).mono ?_; rintro e w1 ⟨rfl, rfl⟩; rw [hf]) | (go_at_call 140; refine (specVow_any s _ _).mono ?_; rintro e w1 ⟨rfl, rfl⟩))
          · have hp : onsP s 0 = true := by unfold onsP; simp_all
            go_round
            case rel => exact ⟨1, by omega, by go_num, by rw [cntP_yes _ 0 hp]; go_num⟩
            case measure => simp [intOf]; omega
          · have hp : onsP s 0 = false := by unfold onsP; simp_all
            go_round
            case rel => exact ⟨1, by omega, by go_num, by rw [cntP_no _ 0 hp]⟩
            case measure => simp [intOf]; omega
        · have h0 : s.size = 0 := by omega
          rw [h0] at HE
          go_wp2
          go_ret
          exact ⟨by rw [← HE.out]; rfl, rfl⟩
      by_cases hlt : j < s.size
      · go_wp2_with (first | (go_at_call 85; refine (specFm_any s _ HM.out).mono ?_; rintro e w1 ⟨rfl, rfl⟩; rw [hf]) | (go_at_call 140; refine (specVow_any s _ _).mono ?_; rintro e w1 ⟨rfl, rfl⟩))
        all_goals
          first
          | (have hp : onsP s j = true := by (unfold onsP; simp_all)
             go_round
             case rel => exact ⟨j + 1, by omega, by go_num, by rw [cntP_yes _ j hp]; go_num⟩
             case measure => simp [intOf]; omega)
          | (have hp : onsP s j = false := by (unfold onsP; simp_all)
             go_round
             case rel => exact ⟨j + 1, by omega, by go_num, by rw [cntP_no _ j hp]⟩
             case measure => simp [intOf]; omega)
      · obtain rfl : j = s.size := by omega
        go_wp2
        go_ret
        exact ⟨by rw [HE.out]; rfl, rfl⟩
  · have hf : isFm s = false := by simpa using hf
    have HE := Lib.hid (mkC_no nconsB vowB s hf)
    go_enter Tryz.func115, Tryz.ntmps115
    go_wp2
    refine wp_loop_rounds 1 ?_
    rw [rounds_succ]
    go_wp2_with (go_at_call 85; refine (specFm_any s _ HM.out).mono ?_; rintro e w1 ⟨rfl, rfl⟩; rw [hf])
    all_goals
      go_ret
      exact ⟨by rw [HE.out]; rfl, rfl⟩

set_option maxHeartbeats 1600000 in
theorem specCod_any (s : ByteArray) (w : World) (hs : s.size ≤ maxLen) :
    Calls Tryz.prog 116 #[.string s] w fun e w' => e = .returned (.int .i64 (mkC consB nvowB s)) ∧ w = w' := by
  have HM := Lib.hid hs
  unfold maxLen at hs
  by_cases hf : isFm s = true
  · have HE := Lib.hid (cod_mk s hf)
    have h8 := isFm_size hf
    go_enter Tryz.func116, Tryz.ntmps116
    go_wp2
    go_loop [3, 4] (fun n i => ∃ (j : Nat), (j ≤ s.size) ∧ i = .int .i64 j ∧ n = .int .i64 (cntP (codP s) j)) (fun _ i => s.size - (intOf i).toNat)
    case atStart => exact ⟨0, by omega, rfl, by simp [cntP]⟩
    case round =>
      obtain ⟨j, hj, rfl, rfl⟩ := hrel
      have hcl := cntP_le (codP s) j
      by_cases hlt : j < s.size
      · go_wp2_with (first | (go_at_call 85; refine (specFm_any s _ HM.out).mono ?_; rintro e w1 ⟨rfl, rfl⟩; rw [hf]) | (go_at_call 140; refine (specVow_any s _ _).mono ?_; rintro e w1 ⟨rfl, rfl⟩))
        all_goals
          first
          | (have hp : codP s j = true := by (unfold codP; simp_all)
             go_round
             case rel => exact ⟨j + 1, by omega, by go_num, by rw [cntP_yes _ j hp]; go_num⟩
             case measure => simp [intOf]; omega)
          | (have hp : codP s j = false := by (unfold codP; simp_all)
             go_round
             case rel => exact ⟨j + 1, by omega, by go_num, by rw [cntP_no _ j hp]⟩
             case measure => simp [intOf]; omega)
      · obtain rfl : j = s.size := by omega
        go_wp2
        go_ret
        exact ⟨by rw [HE.out]; rfl, rfl⟩
  · have hf : isFm s = false := by simpa using hf
    have HE := Lib.hid (mkC_no consB nvowB s hf)
    go_enter Tryz.func116, Tryz.ntmps116
    go_wp2
    refine wp_loop_rounds 1 ?_
    rw [rounds_succ]
    go_wp2_with (go_at_call 85; refine (specFm_any s _ HM.out).mono ?_; rintro e w1 ⟨rfl, rfl⟩; rw [hf])
    all_goals
      go_ret
      exact ⟨by rw [HE.out]; rfl, rfl⟩

set_option maxHeartbeats 1600000 in
theorem specClu_any (s : ByteArray) (w : World) (hs : s.size ≤ maxLen) :
    Calls Tryz.prog 117 #[.string s] w fun e w' => e = .returned (.int .i64 (mkC consB consB s)) ∧ w = w' := by
  have HM := Lib.hid hs
  unfold maxLen at hs
  by_cases hf : isFm s = true
  · have HE := Lib.hid (clu_mk s hf)
    have h8 := isFm_size hf
    go_enter Tryz.func117, Tryz.ntmps117
    go_wp2
    go_loop [3, 4] (fun n i => ∃ (j : Nat), 1 ≤ j ∧ (j ≤ s.size ∨ j = 1) ∧ i = .int .i64 j ∧ n = .int .i64 (cntP (cluP s) j)) (fun _ i => s.size - (intOf i).toNat)
    case atStart => exact ⟨1, by omega, by omega, rfl, by rw [cntP_no (cluP s) 0 (by simp [cluP]), cntP_zero]; rfl⟩
    case round =>
      obtain ⟨j, h1j, hj, rfl, rfl⟩ := hrel
      have hcl := cntP_le (cluP s) j
      by_cases hlt : j < s.size
      · go_wp2_with (first | (go_at_call 85; refine (specFm_any s _ HM.out).mono ?_; rintro e w1 ⟨rfl, rfl⟩; rw [hf]) | (go_at_call 140; refine (specVow_any s _ _).mono ?_; rintro e w1 ⟨rfl, rfl⟩))
        all_goals
          first
          | (have hp : cluP s j = true := by (unfold cluP; simp_all)
             go_round
             case rel => exact ⟨j + 1, by omega, by omega, by go_num, by rw [cntP_yes _ j hp]; go_num⟩
             case measure => simp [intOf]; omega)
          | (have hp : cluP s j = false := by (unfold cluP; simp_all)
             go_round
             case rel => exact ⟨j + 1, by omega, by omega, by go_num, by rw [cntP_no _ j hp]⟩
             case measure => simp [intOf]; omega)
      · have HE2 : Hid (cntP (cluP s) j = mkC consB consB s) := by
          unfold Hid
          rw [← HE.out]
          by_cases hz : j = s.size
          · rw [hz]
          · have h0 : s.size = 0 := by omega
            obtain rfl : j = 1 := by omega
            rw [h0, cntP_no (cluP s) 0 (by simp [cluP])]
        have hge : ¬ (j : Int) < (s.size : Int) := by omega
        go_wp2
        go_ret
        exact ⟨by rw [HE2.out]; rfl, rfl⟩
  · have hf : isFm s = false := by simpa using hf
    have HE := Lib.hid (mkC_no consB consB s hf)
    go_enter Tryz.func117, Tryz.ntmps117
    go_wp2
    refine wp_loop_rounds 1 ?_
    rw [rounds_succ]
    go_wp2_with (go_at_call 85; refine (specFm_any s _ HM.out).mono ?_; rintro e w1 ⟨rfl, rfl⟩; rw [hf])
    all_goals
      go_ret
      exact ⟨by rw [HE.out]; rfl, rfl⟩

set_option maxHeartbeats 1600000 in
theorem specVoi_any (s : ByteArray) (w : World) (hs : s.size ≤ maxLen) :
    Calls Tryz.prog 118 #[.string s] w fun e w' => e = .returned (.int .i64 (mkC anyB vobB s)) ∧ w = w' := by
  have HM := Lib.hid hs
  unfold maxLen at hs
  by_cases hf : isFm s = true
  · have HE := Lib.hid (voi_mk s hf)
    have h8 := isFm_size hf
    go_enter Tryz.func118, Tryz.ntmps118
    go_wp2
    go_loop [3, 4] (fun n i => ∃ (j : Nat), (j ≤ s.size) ∧ i = .int .i64 j ∧ n = .int .i64 (cntP (voiP s) j)) (fun _ i => s.size - (intOf i).toNat)
    case atStart => exact ⟨0, by omega, rfl, by simp [cntP]⟩
    case round =>
      obtain ⟨j, hj, rfl, rfl⟩ := hrel
      have hcl := cntP_le (voiP s) j
      by_cases hlt : j < s.size
      · have hB := bAt_in s j hlt
        go_wp2_with (first | (go_at_call 85; refine (specFm_any s _ HM.out).mono ?_; rintro e w1 ⟨rfl, rfl⟩; rw [hf]) | (go_at_call 141; refine (specVob_any _ _).mono ?_; rintro e w1 ⟨rfl, rfl⟩))
        all_goals
          first
          | (have hp : voiP s j = true := by (unfold voiP; simp_all)
             go_round
             case rel => exact ⟨j + 1, by omega, by go_num, by rw [cntP_yes _ j hp]; go_num⟩
             case measure => simp [intOf]; omega)
          | (have hp : voiP s j = false := by (unfold voiP; simp_all)
             go_round
             case rel => exact ⟨j + 1, by omega, by go_num, by rw [cntP_no _ j hp]⟩
             case measure => simp [intOf]; omega)
      · obtain rfl : j = s.size := by omega
        go_wp2
        go_ret
        exact ⟨by rw [HE.out]; rfl, rfl⟩
  · have hf : isFm s = false := by simpa using hf
    have HE := Lib.hid (mkC_no anyB vobB s hf)
    go_enter Tryz.func118, Tryz.ntmps118
    go_wp2
    refine wp_loop_rounds 1 ?_
    rw [rounds_succ]
    go_wp2_with (go_at_call 85; refine (specFm_any s _ HM.out).mono ?_; rintro e w1 ⟨rfl, rfl⟩; rw [hf])
    all_goals
      go_ret
      exact ⟨by rw [HE.out]; rfl, rfl⟩

set_option maxHeartbeats 1600000 in
theorem specNas_any (s : ByteArray) (w : World) (hs : s.size ≤ maxLen) :
    Calls Tryz.prog 120 #[.string s] w fun e w' => e = .returned (.int .i64 (mkC nasB vlsB s)) ∧ w = w' := by
  have HM := Lib.hid hs
  unfold maxLen at hs
  by_cases hf : isFm s = true
  · have HE := Lib.hid (nas_mk s hf)
    have h8 := isFm_size hf
    go_enter Tryz.func120, Tryz.ntmps120
    go_wp2
    go_loop [3, 4] (fun n i => ∃ (j : Nat), 1 ≤ j ∧ (j ≤ s.size ∨ j = 1) ∧ i = .int .i64 j ∧ n = .int .i64 (cntP (nasP s) j)) (fun _ i => s.size - (intOf i).toNat)
    case atStart => exact ⟨1, by omega, by omega, rfl, by rw [cntP_no (nasP s) 0 (by simp [nasP]), cntP_zero]; rfl⟩
    case round =>
      obtain ⟨j, h1j, hj, rfl, rfl⟩ := hrel
      have hcl := cntP_le (nasP s) j
      by_cases hlt : j < s.size
      · have hB := bAt_in s j hlt
        have hB1 := bAt_in s (j - 1) (by omega)
        go_wp2_with (first | (go_at_call 85; refine (specFm_any s _ HM.out).mono ?_; rintro e w1 ⟨rfl, rfl⟩; rw [hf]) | (go_at_call 142; refine (specHas_any _ _ _).mono ?_; rintro e w1 ⟨rfl, rfl⟩) | (go_at_call 143; refine (specIsObs_any _ _).mono ?_; rintro e w1 ⟨rfl, rfl⟩))
        all_goals
          first
          | (have hp : nasP s j = true := by (unfold nasP; simp_all)
             go_round
             case rel => exact ⟨j + 1, by omega, by omega, by go_num, by rw [cntP_yes _ j hp]; go_num⟩
             case measure => simp [intOf]; omega)
          | (have hp : nasP s j = false := by (unfold nasP; simp_all)
             go_round
             case rel => exact ⟨j + 1, by omega, by omega, by go_num, by rw [cntP_no _ j hp]⟩
             case measure => simp [intOf]; omega)
      · have HE2 : Hid (cntP (nasP s) j = mkC nasB vlsB s) := by
          unfold Hid
          rw [← HE.out]
          by_cases hz : j = s.size
          · rw [hz]
          · have h0 : s.size = 0 := by omega
            obtain rfl : j = 1 := by omega
            rw [h0, cntP_no (nasP s) 0 (by simp [nasP])]
        have hge : ¬ (j : Int) < (s.size : Int) := by omega
        go_wp2
        go_ret
        exact ⟨by rw [HE2.out]; rfl, rfl⟩
  · have hf : isFm s = false := by simpa using hf
    have HE := Lib.hid (mkC_no nasB vlsB s hf)
    go_enter Tryz.func120, Tryz.ntmps120
    go_wp2
    refine wp_loop_rounds 1 ?_
    rw [rounds_succ]
    go_wp2_with (go_at_call 85; refine (specFm_any s _ HM.out).mono ?_; rintro e w1 ⟨rfl, rfl⟩; rw [hf])
    all_goals
      go_ret
      exact ⟨by rw [HE.out]; rfl, rfl⟩

theorem specFin_any (s : ByteArray) (w : World) (hs : s.size ≤ maxLen) :
    Calls Tryz.prog 119 #[.string s] w fun e w' => e = .returned (.int .i64 (mkC vobB edgB s)) ∧ w = w' := by
  have HM := Lib.hid hs
  unfold maxLen at hs
  by_cases hf : isFm s = true
  · have HE := Lib.hid (fin_mk s hf)
    have h8 := isFm_size hf
    by_cases hz : s.size = 0
    · have HF := Lib.hid (fin_empty s hz)
      have hne : s.toList.isEmpty = true := by
        rw [Lib.toList_data]
        rw [List.eq_nil_of_length_eq_zero (show s.data.toList.length = 0 from (Array.length_toList).trans hz)]
        rfl
      go_enter Tryz.func119, Tryz.ntmps119
      go_wp2_with (go_at_call 85; refine (specFm_any s _ HM.out).mono ?_; rintro e w1 ⟨rfl, rfl⟩; rw [hf])
      go_ret
      exact ⟨by rw [HE.out, HF.out]; rfl, rfl⟩
    · have hz2 : 0 < s.size := by omega
      have hB := bAt_in s (s.size - 1) (by omega)
      have hne : s.toList.isEmpty = false := by
        rw [Lib.toList_data]
        cases hd : s.data.toList with
        | nil => exact absurd (by have : s.data.toList.length = s.size := by simp
                                  rw [← this, hd]; rfl : s.size = 0) hz
        | cons a l => rfl
      have HV : Hid (eB s s.size = bAt s (s.size - 1)) := by
        unfold Hid
        rw [← eB_succ, show s.size - 1 + 1 = s.size by omega]
      have hw : IntKind.i64.wrap ((s.size : Int) - 1) = ((s.size - 1 : Nat) : Int) := by rw [show (s.size : Int) - 1 = ((s.size - 1 : Nat) : Int) by omega]; exact IntWalk.i64_in _ (by omega)
      go_enter Tryz.func119, Tryz.ntmps119
      go_wp2_with (first | (go_at_call 85; refine (specFm_any s _ HM.out).mono ?_; rintro e w1 ⟨rfl, rfl⟩; rw [hf]) | (go_at_call 141; refine (specVob_any _ _).mono ?_; rintro e w1 ⟨rfl, rfl⟩))
      · go_ret
        exact ⟨by rw [HE.out, HV.out, if_pos (by assumption)]; rfl, rfl⟩
      · have hn : vobB (bAt s (s.size - 1)) = false := by assumption
        go_ret
        exact ⟨by rw [HE.out, HV.out, hn]; rfl, rfl⟩
  · have hf : isFm s = false := by simpa using hf
    have HE := Lib.hid (mkC_no vobB edgB s hf)
    go_enter Tryz.func119, Tryz.ntmps119
    go_wp2_with (go_at_call 85; refine (specFm_any s _ HM.out).mono ?_; rintro e w1 ⟨rfl, rfl⟩; rw [hf])
    go_ret
    exact ⟨by rw [HE.out]; rfl, rfl⟩
end Go.Proofs.YtkaihnlknncfdaaGreatDoor

/- The model's counts of links: what they answer. -/
namespace Go.Proofs.YtkaihnlknncfdaaGreatDoor
set_option maxRecDepth 100000
open Go.RowKit M
set_option linter.unusedVariables false
set_option linter.unusedSimpArgs false
set_option maxRecDepth 100000

set_option maxHeartbeats 4000000 in
theorem specDeleted_any (x : DCandidate) (v : Value) (F : Addr → Prop) (w : World) (hl : x.Links.length ≤ 1048576) (hv : RowRd rLink false w v x.Links F) :
    Calls Tryz.prog 121 #[.agg #[v]] w fun e w' => e = .returned (.int .i64 (cntC delK x.Links : Nat)) ∧ Below w.heap.size w w' := by
  obtain ⟨A, cap, rfl⟩ := hv.form
  have HIS : Hid (∀ W, Below w.heap.size w W → Calls Tryz.prog 76 #[.agg #[.slice A x.Links.length cap]] W fun e w' => e = .returned (.bool (isCd x.Links)) ∧ Below W.heap.size W w') := fun W hW => specIsCd_any x _ F W hl (hv.kept hW)
  have HV := Lib.hid hv
  clear hv
  have HX : Hid (∀ k, k < x.Links.length → ∃ y, x.Links[k]? = some y) := fun k hk => ⟨_, List.getElem?_eq_getElem hk⟩
  have HC : Hid (cntC delK x.Links = if isCd x.Links then cntL delK x.Links else 0) := rfl
  generalize x.Links = l at *
  generalize isCd l = cd at *
  generalize cntC delK l = r at *
  go_enter Tryz.func121, Tryz.ntmps121
  go_wp2
  go_loopw [3, 4] (fun c i wr => ∃ (k : Nat), k ≤ l.length ∧ i = .int .i64 k ∧ c = .int .i64 (cntL delK (l.take k) : Nat) ∧ Hid (cd = false → k = 0) ∧ Below w.heap.size w wr ∧ InC wr w.heap.size #[.slice A l.length cap] 55) (fun _ i _ => l.length - (intOf i).toNat)
  case atStart => exact ⟨0, by omega, rfl, rfl, fun _ => rfl, (Below.refl _ _).alloc (Nat.le_refl _) _, heap_alloc_new _ _⟩
  case round =>
    obtain ⟨k, hk, rfl, rfl, hcd, hbe, hi1⟩ := hrel
    have b1 := hi1.cell 0 rfl
    have HBE := Lib.hid hbe
    have HI1 := Lib.hid hi1
    clear hbe hi1
    have hel := cntL_le delK l k
    by_cases hkl : k < l.length
    · obtain ⟨y, hy⟩ := HX.out k hkl
      go_wp2_with fail
      refine (HIS.out _ HBE.out).mono ?_
      rintro e w2 ⟨rfl, hb2⟩
      have HBE2 : Hid (Below w.heap.size w w2) := below_step HBE.out hb2
      have HI2 := Lib.hid (HI1.out.kept hb2)
      have b2 := HI2.out.cell 0 rfl
      clear hb2 b1
      obtain ⟨g, off, xs, Fk, rfl, _, hra, _, hca⟩ := (HV.out.kept HBE2.out).get hy
      obtain rfl := rLink_rd hra
      rw [rLink_size] at hca
      have c0 := hca 0 _ rfl
      have c1 := hca 1 _ rfl
      simp only [Nat.add_zero] at c0
      have HEY : Hid (decide ((y.Out.toNat : Int) = 0) = true → cntL delK (l.take (k + 1)) = cntL delK (l.take k) + 1) := fun h => cntL_yes hy h
      have HEN : Hid (decide ((y.Out.toNat : Int) = 0) = false → cntL delK (l.take (k + 1)) = cntL delK (l.take k)) := fun h => cntL_no hy h
      clear hca hra hy
      generalize cntL delK (l.take k) = E0 at *
      generalize (y.In.toNat : Int) = a at *
      generalize (y.Out.toNat : Int) = b at *
      cases cd
      · obtain rfl : k = 0 := hcd.out rfl
        have h0 : r = 0 := by rw [HC.out]; rfl
        have hE0 : E0 = 0 := by omega
        subst hE0
        subst h0
        go_wp2
        go_ret
        exact ⟨rfl, HBE2.out⟩
      · by_cases hb : b = 0
        · have HE := Lib.hid (HEY.out (by simp [hb]))
          have qb : (b == 0) = true := by simp [hb]
          have nb : (b != 0) = false := by simp [hb]
          go_wp2
          (try go_quiet (fail))
          (try go_wp2)
          go_roundw
          case rel => exact ⟨k + 1, by omega, by go_num, by rw [HE.out]; go_num, fun h => (by cases h), by first | exact HBE2.out | exact drewN_below HBE2.out | exact drewN_below (HBE2.out.alloc HBE2.out.size _) | exact HBE2.out.alloc HBE2.out.size _, by first | exact HI2.out | exact inC_drewN HI2.out | exact inC_drewN (HI2.out.kept ((Below.refl _ _).alloc (Nat.le_refl _) _)) | exact HI2.out.kept ((Below.refl _ _).alloc (Nat.le_refl _) _)⟩
          case measure => simp [intOf]; omega
        · have HE := Lib.hid (HEN.out (by simp [hb]))
          have qb : (b == 0) = false := by simp [hb]
          have nb : (b != 0) = true := by simp [hb]
          go_wp2
          (try go_quiet (fail))
          (try go_wp2)
          go_roundw
          case rel => exact ⟨k + 1, by omega, by go_num, by rw [HE.out], fun h => (by cases h), by first | exact HBE2.out | exact drewN_below HBE2.out | exact drewN_below (HBE2.out.alloc HBE2.out.size _) | exact HBE2.out.alloc HBE2.out.size _, by first | exact HI2.out | exact inC_drewN HI2.out | exact inC_drewN (HI2.out.kept ((Below.refl _ _).alloc (Nat.le_refl _) _)) | exact HI2.out.kept ((Below.refl _ _).alloc (Nat.le_refl _) _)⟩
          case measure => simp [intOf]; omega
    · obtain rfl : k = l.length := by omega
      rw [List.take_length] at *
      have HR : Hid (cntL delK l = r) := by
        unfold Hid
        rw [HC.out]
        cases cd
        · have h0 : l.length = 0 := hcd.out rfl
          have h1 : l = [] := List.eq_nil_of_length_eq_zero h0
          subst h1
          rfl
        · rfl
      go_wp2
      go_ret
      exact ⟨by rw [HR.out] <;> rfl, HBE.out⟩
set_option maxHeartbeats 4000000 in
theorem specInserted_any (x : DCandidate) (v : Value) (F : Addr → Prop) (w : World) (hl : x.Links.length ≤ 1048576) (hv : RowRd rLink false w v x.Links F) :
    Calls Tryz.prog 122 #[.agg #[v]] w fun e w' => e = .returned (.int .i64 (cntC insK x.Links : Nat)) ∧ Below w.heap.size w w' := by
  obtain ⟨A, cap, rfl⟩ := hv.form
  have HIS : Hid (∀ W, Below w.heap.size w W → Calls Tryz.prog 76 #[.agg #[.slice A x.Links.length cap]] W fun e w' => e = .returned (.bool (isCd x.Links)) ∧ Below W.heap.size W w') := fun W hW => specIsCd_any x _ F W hl (hv.kept hW)
  have HV := Lib.hid hv
  clear hv
  have HX : Hid (∀ k, k < x.Links.length → ∃ y, x.Links[k]? = some y) := fun k hk => ⟨_, List.getElem?_eq_getElem hk⟩
  have HC : Hid (cntC insK x.Links = if isCd x.Links then cntL insK x.Links else 0) := rfl
  generalize x.Links = l at *
  generalize isCd l = cd at *
  generalize cntC insK l = r at *
  go_enter Tryz.func122, Tryz.ntmps122
  go_wp2
  go_loopw [3, 4] (fun c i wr => ∃ (k : Nat), k ≤ l.length ∧ i = .int .i64 k ∧ c = .int .i64 (cntL insK (l.take k) : Nat) ∧ Hid (cd = false → k = 0) ∧ Below w.heap.size w wr ∧ InC wr w.heap.size #[.slice A l.length cap] 55) (fun _ i _ => l.length - (intOf i).toNat)
  case atStart => exact ⟨0, by omega, rfl, rfl, fun _ => rfl, (Below.refl _ _).alloc (Nat.le_refl _) _, heap_alloc_new _ _⟩
  case round =>
    obtain ⟨k, hk, rfl, rfl, hcd, hbe, hi1⟩ := hrel
    have b1 := hi1.cell 0 rfl
    have HBE := Lib.hid hbe
    have HI1 := Lib.hid hi1
    clear hbe hi1
    have hel := cntL_le insK l k
    by_cases hkl : k < l.length
    · obtain ⟨y, hy⟩ := HX.out k hkl
      go_wp2_with fail
      refine (HIS.out _ HBE.out).mono ?_
      rintro e w2 ⟨rfl, hb2⟩
      have HBE2 : Hid (Below w.heap.size w w2) := below_step HBE.out hb2
      have HI2 := Lib.hid (HI1.out.kept hb2)
      have b2 := HI2.out.cell 0 rfl
      clear hb2 b1
      obtain ⟨g, off, xs, Fk, rfl, _, hra, _, hca⟩ := (HV.out.kept HBE2.out).get hy
      obtain rfl := rLink_rd hra
      rw [rLink_size] at hca
      have c0 := hca 0 _ rfl
      have c1 := hca 1 _ rfl
      simp only [Nat.add_zero] at c0
      have HEY : Hid (decide ((y.In.toNat : Int) = 0) = true → cntL insK (l.take (k + 1)) = cntL insK (l.take k) + 1) := fun h => cntL_yes hy h
      have HEN : Hid (decide ((y.In.toNat : Int) = 0) = false → cntL insK (l.take (k + 1)) = cntL insK (l.take k)) := fun h => cntL_no hy h
      clear hca hra hy
      generalize cntL insK (l.take k) = E0 at *
      generalize (y.In.toNat : Int) = a at *
      generalize (y.Out.toNat : Int) = b at *
      cases cd
      · obtain rfl : k = 0 := hcd.out rfl
        have h0 : r = 0 := by rw [HC.out]; rfl
        have hE0 : E0 = 0 := by omega
        subst hE0
        subst h0
        go_wp2
        go_ret
        exact ⟨rfl, HBE2.out⟩
      · by_cases ha : a = 0
        · have HE := Lib.hid (HEY.out (by simp [ha]))
          have qa : (a == 0) = true := by simp [ha]
          have na : (a != 0) = false := by simp [ha]
          go_wp2
          (try go_quiet (fail))
          (try go_wp2)
          go_roundw
          case rel => exact ⟨k + 1, by omega, by go_num, by rw [HE.out]; go_num, fun h => (by cases h), by first | exact HBE2.out | exact drewN_below HBE2.out | exact drewN_below (HBE2.out.alloc HBE2.out.size _) | exact HBE2.out.alloc HBE2.out.size _, by first | exact HI2.out | exact inC_drewN HI2.out | exact inC_drewN (HI2.out.kept ((Below.refl _ _).alloc (Nat.le_refl _) _)) | exact HI2.out.kept ((Below.refl _ _).alloc (Nat.le_refl _) _)⟩
          case measure => simp [intOf]; omega
        · have HE := Lib.hid (HEN.out (by simp [ha]))
          have qa : (a == 0) = false := by simp [ha]
          have na : (a != 0) = true := by simp [ha]
          go_wp2
          (try go_quiet (fail))
          (try go_wp2)
          go_roundw
          case rel => exact ⟨k + 1, by omega, by go_num, by rw [HE.out], fun h => (by cases h), by first | exact HBE2.out | exact drewN_below HBE2.out | exact drewN_below (HBE2.out.alloc HBE2.out.size _) | exact HBE2.out.alloc HBE2.out.size _, by first | exact HI2.out | exact inC_drewN HI2.out | exact inC_drewN (HI2.out.kept ((Below.refl _ _).alloc (Nat.le_refl _) _)) | exact HI2.out.kept ((Below.refl _ _).alloc (Nat.le_refl _) _)⟩
          case measure => simp [intOf]; omega
    · obtain rfl : k = l.length := by omega
      rw [List.take_length] at *
      have HR : Hid (cntL insK l = r) := by
        unfold Hid
        rw [HC.out]
        cases cd
        · have h0 : l.length = 0 := hcd.out rfl
          have h1 : l = [] := List.eq_nil_of_length_eq_zero h0
          subst h1
          rfl
        · rfl
      go_wp2
      go_ret
      exact ⟨by rw [HR.out] <;> rfl, HBE.out⟩
set_option maxHeartbeats 4000000 in
theorem specVoiceChanged_any (x : DCandidate) (v : Value) (F : Addr → Prop) (w : World) (hl : x.Links.length ≤ 1048576) (hv : RowRd rLink false w v x.Links F) :
    Calls Tryz.prog 123 #[.agg #[v]] w fun e w' => e = .returned (.int .i64 (cntC vchK x.Links : Nat)) ∧ Below w.heap.size w w' := by
  obtain ⟨A, cap, rfl⟩ := hv.form
  have HIS : Hid (∀ W, Below w.heap.size w W → Calls Tryz.prog 76 #[.agg #[.slice A x.Links.length cap]] W fun e w' => e = .returned (.bool (isCd x.Links)) ∧ Below W.heap.size W w') := fun W hW => specIsCd_any x _ F W hl (hv.kept hW)
  have HV := Lib.hid hv
  clear hv
  have HX : Hid (∀ k, k < x.Links.length → ∃ y, x.Links[k]? = some y) := fun k hk => ⟨_, List.getElem?_eq_getElem hk⟩
  have HC : Hid (cntC vchK x.Links = if isCd x.Links then cntL vchK x.Links else 0) := rfl
  generalize x.Links = l at *
  generalize isCd l = cd at *
  generalize cntC vchK l = r at *
  go_enter Tryz.func123, Tryz.ntmps123
  go_wp2
  go_loopw [3, 4] (fun c i wr => ∃ (k : Nat), k ≤ l.length ∧ i = .int .i64 k ∧ c = .int .i64 (cntL vchK (l.take k) : Nat) ∧ Hid (cd = false → k = 0) ∧ Below w.heap.size w wr ∧ InC wr w.heap.size #[.slice A l.length cap] 55) (fun _ i _ => l.length - (intOf i).toNat)
  case atStart => exact ⟨0, by omega, rfl, rfl, fun _ => rfl, (Below.refl _ _).alloc (Nat.le_refl _) _, heap_alloc_new _ _⟩
  case round =>
    obtain ⟨k, hk, rfl, rfl, hcd, hbe, hi1⟩ := hrel
    have b1 := hi1.cell 0 rfl
    have HBE := Lib.hid hbe
    have HI1 := Lib.hid hi1
    clear hbe hi1
    have hel := cntL_le vchK l k
    by_cases hkl : k < l.length
    · obtain ⟨y, hy⟩ := HX.out k hkl
      go_wp2_with fail
      refine (HIS.out _ HBE.out).mono ?_
      rintro e w2 ⟨rfl, hb2⟩
      have HBE2 : Hid (Below w.heap.size w w2) := below_step HBE.out hb2
      have HI2 := Lib.hid (HI1.out.kept hb2)
      have b2 := HI2.out.cell 0 rfl
      clear hb2 b1
      obtain ⟨g, off, xs, Fk, rfl, _, hra, _, hca⟩ := (HV.out.kept HBE2.out).get hy
      obtain rfl := rLink_rd hra
      rw [rLink_size] at hca
      have c0 := hca 0 _ rfl
      have c1 := hca 1 _ rfl
      simp only [Nat.add_zero] at c0
      have HEY : Hid (((!decide ((y.Out.toNat : Int) = 0) && !decide ((y.In.toNat : Int) = 0)) && !decide ((y.In.toNat : Int) = (y.Out.toNat : Int))) = true → cntL vchK (l.take (k + 1)) = cntL vchK (l.take k) + 1) := fun h => cntL_yes hy h
      have HEN : Hid (((!decide ((y.Out.toNat : Int) = 0) && !decide ((y.In.toNat : Int) = 0)) && !decide ((y.In.toNat : Int) = (y.Out.toNat : Int))) = false → cntL vchK (l.take (k + 1)) = cntL vchK (l.take k)) := fun h => cntL_no hy h
      clear hca hra hy
      generalize cntL vchK (l.take k) = E0 at *
      generalize (y.In.toNat : Int) = a at *
      generalize (y.Out.toNat : Int) = b at *
      cases cd
      · obtain rfl : k = 0 := hcd.out rfl
        have h0 : r = 0 := by rw [HC.out]; rfl
        have hE0 : E0 = 0 := by omega
        subst hE0
        subst h0
        go_wp2
        go_ret
        exact ⟨rfl, HBE2.out⟩
      · by_cases ha : a = 0
        · have HE := Lib.hid (HEN.out (by simp [ha]))
          have qa : (a == 0) = true := by simp [ha]
          have na : (a != 0) = false := by simp [ha]
          go_wp2
          (try go_quiet (fail))
          (try go_wp2)
          go_roundw
          case rel => exact ⟨k + 1, by omega, by go_num, by rw [HE.out], fun h => (by cases h), by first | exact HBE2.out | exact drewN_below HBE2.out | exact drewN_below (HBE2.out.alloc HBE2.out.size _) | exact HBE2.out.alloc HBE2.out.size _, by first | exact HI2.out | exact inC_drewN HI2.out | exact inC_drewN (HI2.out.kept ((Below.refl _ _).alloc (Nat.le_refl _) _)) | exact HI2.out.kept ((Below.refl _ _).alloc (Nat.le_refl _) _)⟩
          case measure => simp [intOf]; omega
        · by_cases hb : b = 0
          · have HE := Lib.hid (HEN.out (by simp [ha, hb]))
            have qa : (a == 0) = false := by simp [ha]
            have qb : (b == 0) = true := by simp [hb]
            have na : (a != 0) = true := by simp [ha]
            have nb : (b != 0) = false := by simp [hb]
            go_wp2
            (try go_quiet (fail))
            (try go_wp2)
            go_roundw
            case rel => exact ⟨k + 1, by omega, by go_num, by rw [HE.out], fun h => (by cases h), by first | exact HBE2.out | exact drewN_below HBE2.out | exact drewN_below (HBE2.out.alloc HBE2.out.size _) | exact HBE2.out.alloc HBE2.out.size _, by first | exact HI2.out | exact inC_drewN HI2.out | exact inC_drewN (HI2.out.kept ((Below.refl _ _).alloc (Nat.le_refl _) _)) | exact HI2.out.kept ((Below.refl _ _).alloc (Nat.le_refl _) _)⟩
            case measure => simp [intOf]; omega
          · by_cases hab : a = b
            · have HE := Lib.hid (HEN.out (by simp [ha, hb, hab]))
              have qa : (a == 0) = false := by simp [ha]
              have qb : (b == 0) = false := by simp [hb]
              have qab : (a == b) = true := by simp [hab]
              have na : (a != 0) = true := by simp [ha]
              have nb : (b != 0) = true := by simp [hb]
              have nab : (a != b) = false := by simp [hab]
              go_wp2
              (try go_quiet (fail))
              (try go_wp2)
              go_roundw
              case rel => exact ⟨k + 1, by omega, by go_num, by rw [HE.out], fun h => (by cases h), by first | exact HBE2.out | exact drewN_below HBE2.out | exact drewN_below (HBE2.out.alloc HBE2.out.size _) | exact HBE2.out.alloc HBE2.out.size _, by first | exact HI2.out | exact inC_drewN HI2.out | exact inC_drewN (HI2.out.kept ((Below.refl _ _).alloc (Nat.le_refl _) _)) | exact HI2.out.kept ((Below.refl _ _).alloc (Nat.le_refl _) _)⟩
              case measure => simp [intOf]; omega
            · have HE := Lib.hid (HEY.out (by simp [ha, hb, hab]))
              have qa : (a == 0) = false := by simp [ha]
              have qb : (b == 0) = false := by simp [hb]
              have qab : (a == b) = false := by simp [hab]
              have na : (a != 0) = true := by simp [ha]
              have nb : (b != 0) = true := by simp [hb]
              have nab : (a != b) = true := by simp [hab]
              go_wp2
              (try go_quiet (fail))
              (try go_wp2)
              go_roundw
              case rel => exact ⟨k + 1, by omega, by go_num, by rw [HE.out]; go_num, fun h => (by cases h), by first | exact HBE2.out | exact drewN_below HBE2.out | exact drewN_below (HBE2.out.alloc HBE2.out.size _) | exact HBE2.out.alloc HBE2.out.size _, by first | exact HI2.out | exact inC_drewN HI2.out | exact inC_drewN (HI2.out.kept ((Below.refl _ _).alloc (Nat.le_refl _) _)) | exact HI2.out.kept ((Below.refl _ _).alloc (Nat.le_refl _) _)⟩
              case measure => simp [intOf]; omega
    · obtain rfl : k = l.length := by omega
      rw [List.take_length] at *
      have HR : Hid (cntL vchK l = r) := by
        unfold Hid
        rw [HC.out]
        cases cd
        · have h0 : l.length = 0 := hcd.out rfl
          have h1 : l = [] := List.eq_nil_of_length_eq_zero h0
          subst h1
          rfl
        · rfl
      go_wp2
      go_ret
      exact ⟨by rw [HR.out] <;> rfl, HBE.out⟩
end Go.Proofs.YtkaihnlknncfdaaGreatDoor
