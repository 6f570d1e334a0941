/- The program's linkList: keep, edit. -/
import Derived.Test.YtlekcnddejnejaaIc3
import Derived.Test.YtlekcnddejnejaaRa
import Derived.Laws.Rows
namespace Go.Proofs.Ytlekcnddejnejaa
open Go.RowKit M
set_option linter.unusedVariables false
set_option linter.unusedSimpArgs false

theorem InC.put {w : World} {B : Nat} {cs : Array Value} {t : TypeId} (h : InC w B cs t) (j : Nat) (u : Value) : InC (w.setCell ⟨B, j, none⟩ u) B (cs.setIfInBounds j u) t := heap_setCell_same w B j cs t u h
/-- One block alone is written. -/
structure Touch (g : Nat) (w w' : World) : Prop where
  os : w'.os = w.os
  tape : w'.tape = w.tape
  output : w'.output = w.output
  size : w'.heap.size = w.heap.size
  block : ∀ k, k ≠ g → w'.heap[k]? = w.heap[k]?
theorem Touch.refl (g : Nat) (w : World) : Touch g w w := ⟨rfl, rfl, rfl, rfl, fun _ _ => rfl⟩
theorem Touch.trans {g : Nat} {a b c : World} (h : Touch g a b) (k : Touch g b c) : Touch g a c := ⟨k.os.trans h.os, k.tape.trans h.tape, k.output.trans h.output, k.size.trans h.size, fun j hj => (k.block j hj).trans (h.block j hj)⟩
theorem Touch.put {g : Nat} {a b : World} (h : Touch g a b) (j : Nat) (u : Value) : Touch g a (b.setCell ⟨g, j, none⟩ u) :=
  ⟨h.os, h.tape, h.output, by rw [← h.size]; simp [World.setCell], fun k hk => (heap_setCell_other b ⟨g, j, none⟩ k u hk).trans (h.block k hk)⟩
theorem drewN_os (w : World) (n : Nat) : (w.drewN n).os = w.os ∧ (w.drewN n).tape = w.tape ∧ (w.drewN n).output = w.output := by
  induction n generalizing w with
  | zero => exact ⟨rfl, rfl, rfl⟩
  | succ n ih => exact ih w.drew
theorem Touch.drewN {g n : Nat} {a b : World} (h : Touch g a b) : Touch g a (b.drewN n) :=
  ⟨(drewN_os b n).1.trans h.os, (drewN_os b n).2.1.trans h.tape, (drewN_os b n).2.2.trans h.output, by rw [drewN_heap]; exact h.size, fun k hk => by rw [drewN_heap]; exact h.block k hk⟩
theorem Touch.below {g B : Nat} {w w' : World} (h : Touch g w w') (hB : B ≤ g) : Below B w w' := ⟨h.os, h.tape, h.output, Nat.le_of_eq h.size.symm, fun k hk => h.block k (by omega)⟩
theorem Touch.inC {g k : Nat} {w w' : World} (h : Touch g w w') (hk : k ≠ g) {cs : Array Value} {t : TypeId} (hc : InC w k cs t) : InC w' k cs t := (h.block k hk).trans hc
def lkC (x : DLink) : List Value := [.int .u8 (x.In.toNat : Int), .int .u8 (x.Out.toNat : Int)]
def llL (ls : List DLink) : List Value := ls.flatMap lkC ++ (List.replicate (32 - 2 * ls.length) (.int .u8 0) ++ [.int .i64 (ls.length : Int)])
theorem lkC_len (ls : List DLink) : (ls.flatMap lkC).length = 2 * ls.length := by
  induction ls with
  | nil => rfl
  | cons x l ih => rw [List.flatMap_cons, List.length_append, ih, List.length_cons]; simp [lkC]; omega
theorem llL_used (ls : List DLink) (h : ls.length ≤ 16) : (llL ls)[32]? = some (.int .i64 (ls.length : Int)) := by
  unfold llL
  rw [List.getElem?_append_right (by rw [lkC_len]; omega), lkC_len, List.getElem?_append_right (by simp)]
  simp
/-- What keep writes. -/
theorem llL_keep (ls : List DLink) (h : ls.length < 16) (x : DLink) :
    (((llL ls).set 32 (.int .i64 ((ls.length : Int) + 1))).set (ls.length * 2) (.int .u8 (x.In.toNat : Int))).set (ls.length * 2 + 1) (.int .u8 (x.Out.toNat : Int)) = llL (ls ++ [x]) := by
  obtain ⟨m, hm⟩ : ∃ m, 32 - 2 * ls.length = m + 2 := ⟨32 - 2 * ls.length - 2, by omega⟩
  have hm2 : 32 - 2 * (ls ++ [x]).length = m := by rw [List.length_append, List.length_singleton]; omega
  have hl := lkC_len ls
  unfold llL
  rw [hm2, hm, List.flatMap_append]
  generalize ls.flatMap lkC = C at *
  have e32 : 32 = C.length + (m + 2) := by omega
  have e2 : ls.length * 2 = C.length + 0 := by omega
  rw [show (32 : Nat) = C.length + (m + 2) from e32, show ls.length * 2 + 1 = C.length + 1 by omega, e2]
  rw [List.set_append_right _ _ (by omega), Nat.add_sub_cancel_left, List.set_append_right _ _ (by omega), Nat.add_sub_cancel_left, List.set_append_right _ _ (by omega), Nat.add_sub_cancel_left]
  rw [List.set_append_right _ _ (by rw [List.length_replicate]; omega), List.length_replicate, Nat.sub_self]
  simp [List.replicate_succ, lkC]
theorem llL_room (ls : List DLink) (h : ls.length < 16) (u : Value) (j : Nat) (hj : j < 2) : ((llL ls).set 32 u)[ls.length * 2 + j]? = some (.int .u8 0) := by
  have hl := lkC_len ls
  rw [List.getElem?_set_ne (by omega)]
  unfold llL
  rw [List.getElem?_append_right (by omega), hl, List.getElem?_append_left (by simp; omega), List.getElem?_replicate, if_pos (by omega)]
/-- The links of the last place. -/
theorem llL_last (ls : List DLink) (x : DLink) : (llL (ls ++ [x]))[ls.length * 2]? = some (.int .u8 (x.In.toNat : Int)) ∧ (llL (ls ++ [x]))[ls.length * 2 + 1]? = some (.int .u8 (x.Out.toNat : Int)) := by
  have hl := lkC_len ls
  unfold llL
  rw [List.flatMap_append, List.append_assoc]
  generalize ls.flatMap lkC = C at *
  rw [show ls.length * 2 + 1 = C.length + 1 by omega, show ls.length * 2 = C.length + 0 by omega]
  refine ⟨?_, ?_⟩
  · rw [List.getElem?_append_right (by omega), Nat.add_sub_cancel_left]; rfl
  · rw [List.getElem?_append_right (by omega), Nat.add_sub_cancel_left]; rfl
theorem llL_in (ls : List DLink) (x : DLink) (b : UInt8) : (llL (ls ++ [x])).set (ls.length * 2) (.int .u8 (b.toNat : Int)) = llL (ls ++ [⟨b, x.Out⟩]) := by
  have hl := lkC_len ls
  unfold llL
  rw [List.flatMap_append, List.append_assoc, List.set_append_right _ _ (by omega), hl, show ls.length * 2 - 2 * ls.length = 0 by omega, List.flatMap_append, List.append_assoc]
  simp [lkC]
theorem llL_out (ls : List DLink) (x : DLink) (b : UInt8) : (llL (ls ++ [x])).set (ls.length * 2 + 1) (.int .u8 (b.toNat : Int)) = llL (ls ++ [⟨x.In, b⟩]) := by
  have hl := lkC_len ls
  unfold llL
  rw [List.flatMap_append, List.append_assoc, List.set_append_right _ _ (by omega), hl, show ls.length * 2 + 1 - 2 * ls.length = 1 by omega, List.flatMap_append, List.append_assoc]
  simp [lkC]
/-- The block of a linkList with these links. -/
def LkL (w : World) (g : Nat) (ls : List DLink) : Prop := InC w g (llL ls).toArray 53
theorem InC.list {w : World} {g : Nat} {l : List Value} {t : TypeId} (h : InC w g l.toArray t) (j : Nat) (u : Value) : InC (w.setCell ⟨g, j, none⟩ u) g (l.set j u).toArray t := by
  have := h.put j u
  rwa [List.setIfInBounds_toArray] at this
def KeepPost (b : UInt8) (ls : List DLink) (g : Nat) (w : World) (e : Ending) (w' : World) : Prop :=
  (ls.length = 16 → e = .returned (.pointer none) ∧ w = w') ∧ (ls.length < 16 → e = .returned (.pointer (some ⟨g, ls.length * 2, none⟩)) ∧ LkL w' g (ls ++ [⟨b, b⟩]) ∧ Touch g w w')
set_option maxHeartbeats 4000000 in
theorem implKeep_any (b : UInt8) (ls : List DLink) (g : Nat) (w : World) (hl : ls.length ≤ 16) (h : LkL w g ls) :
    Calls Try.prog 43 #[.pointer (some ⟨g, 0, none⟩), .int .u8 (b.toNat : Int)] w (KeepPost b ls g w) := by
  have hu : (llL ls).toArray[32]? = some (.int .i64 (ls.length : Int)) := by simpa using llL_used ls hl
  have c32 := InC.cell h 32 hu
  have f32 := InC.free h 32
  have H := Lib.hid h
  clear h hu
  go_enter Try.func43, Try.ntmps43
  by_cases h16 : ls.length = 16
  · have h16' : (ls.length : Int) = 16 := by omega
    rw [h16'] at *
    go_wp2
    go_ret
    exact ⟨fun _ => ⟨rfl, rfl⟩, fun h => by omega⟩
  · have h16' : ¬ (ls.length : Int) = 16 := by omega
    have hlt : (ls.length : Int) < 16 := by omega
    have hlt2 : ls.length < 16 := by omega
    have HP : Hid (∀ w', LkL w' g (ls ++ [⟨b, b⟩]) → Touch g w w' → KeepPost b ls g w (.returned (.pointer (some ⟨g, ls.length * 2, none⟩))) w') := fun w' h1 h2 => ⟨fun h => by omega, fun _ => ⟨rfl, h1, h2⟩⟩
    have HF : Hid (∀ n, InC ((w.drewN n).setCell ⟨g, 32, none⟩ (.int .i64 ((ls.length : Int) + 1))) g ((llL ls).set 32 (.int .i64 ((ls.length : Int) + 1))).toArray 53) := fun n => InC.list (inC_drewN H.out) 32 _
    have HF2 : Hid (∀ n, InC (((w.drewN n).setCell ⟨g, 32, none⟩ (.int .i64 ((ls.length : Int) + 1))).setCell ⟨g, ls.length * 2, none⟩ (.int .u8 (b.toNat : Int))) g (((llL ls).set 32 (.int .i64 ((ls.length : Int) + 1))).set (ls.length * 2) (.int .u8 (b.toNat : Int))).toArray 53) := fun n => InC.list (HF.out n) _ _
    have HF3 : Hid (∀ n, LkL ((((w.drewN n).setCell ⟨g, 32, none⟩ (.int .i64 ((ls.length : Int) + 1))).setCell ⟨g, ls.length * 2, none⟩ (.int .u8 (b.toNat : Int))).setCell ⟨g, ls.length * 2 + 1, none⟩ (.int .u8 (b.toNat : Int))) g (ls ++ [⟨b, b⟩])) := fun n => by
      have := InC.list (HF2.out n) (ls.length * 2 + 1) (.int .u8 (b.toNat : Int))
      unfold LkL
      rwa [llL_keep ls hlt2 ⟨b, b⟩] at this
    have HT : Hid (∀ n, Touch g w ((((w.drewN n).setCell ⟨g, 32, none⟩ (.int .i64 ((ls.length : Int) + 1))).setCell ⟨g, ls.length * 2, none⟩ (.int .u8 (b.toNat : Int))).setCell ⟨g, ls.length * 2 + 1, none⟩ (.int .u8 (b.toNat : Int)))) := fun n => (((Touch.refl g w).drewN.put _ _).put _ _).put _ _
    have e1 : ∀ n, ((w.drewN n).setCell ⟨g, 32, none⟩ (.int .i64 ((ls.length : Int) + 1))).cell? ⟨g, ls.length * 2, none⟩ = some (.int .u8 0) := fun n => InC.cell (HF.out n) _ (by have := llL_room ls hlt2 (.int .i64 ((ls.length : Int) + 1)) 0 (by omega); simpa using this)
    have f1 : ∀ n, ((w.drewN n).setCell ⟨g, 32, none⟩ (.int .i64 ((ls.length : Int) + 1))).frozen? ⟨g, ls.length * 2, none⟩ = false := fun n => InC.free (HF.out n) _
    have e2 : ∀ n, (((w.drewN n).setCell ⟨g, 32, none⟩ (.int .i64 ((ls.length : Int) + 1))).setCell ⟨g, ls.length * 2, none⟩ (.int .u8 (b.toNat : Int))).cell? ⟨g, ls.length * 2 + 1, none⟩ = some (.int .u8 0) := fun n => InC.cell (HF2.out n) _ (by
      have := llL_room ls hlt2 (.int .i64 ((ls.length : Int) + 1)) 1 (by omega)
      rw [List.getElem?_toArray, List.getElem?_set_ne (by omega)]
      exact this)
    have f2 : ∀ n, (((w.drewN n).setCell ⟨g, 32, none⟩ (.int .i64 ((ls.length : Int) + 1))).setCell ⟨g, ls.length * 2, none⟩ (.int .u8 (b.toNat : Int))).frozen? ⟨g, ls.length * 2 + 1, none⟩ = false := fun n => InC.free (HF2.out n) _
    go_wp2
    go_quiet (fail)
    go_wp2
    go_ret
    exact HP.out _ (HF3.out _) (HT.out _)
def EditPost (b k : UInt8) (ls : List DLink) (g : Nat) (w w' : World) : Prop := LkL w' g (ls ++ [edL b k]) ∧ Touch g w w'
theorem swapV_in (x : Int) (h0 : 0 ≤ x) (h1 : x < 256) : 0 ≤ swapV x ∧ swapV x < 256 := by
  unfold swapV; split <;> (try split) <;> (try split) <;> (try split) <;> omega
set_option maxHeartbeats 4000000 in
theorem implEdit_any (b k : UInt8) (ls : List DLink) (g : Nat) (w : World) (h : LkL w g (ls ++ [⟨b, b⟩])) :
    Calls Try.prog 56 #[.pointer (some ⟨g, ls.length * 2, none⟩), .int .u8 (k.toNat : Int)] w fun e w' => e = .returned (.tuple #[]) ∧ EditPost b k ls g w w' := by
  have c0 := InC.cell h (ls.length * 2) (u := .int .u8 (b.toNat : Int)) (by simpa using (llL_last ls ⟨b, b⟩).1)
  have c1 := InC.cell h (ls.length * 2 + 1) (u := .int .u8 (b.toNat : Int)) (by simpa using (llL_last ls ⟨b, b⟩).2)
  have f0 := InC.free h (ls.length * 2)
  have f1 := InC.free h (ls.length * 2 + 1)
  have H43 : Hid ((k.toNat : Int) = 43 → edL b k = ⟨0, b⟩) := fun e => by have : k = 43 := (u8_eq k 43).1 e; subst this; rfl
  have H45 : Hid ((k.toNat : Int) = 45 → edL b k = ⟨b, 0⟩) := fun e => by have : k = 45 := (u8_eq k 45).1 e; subst this; rfl
  have H42 : Hid ((k.toNat : Int) = 42 → edL b k = ⟨b, byt (swapV (b.toNat : Int))⟩) := fun e => by have : k = 42 := (u8_eq k 42).1 e; subst this; rfl
  have HNO : Hid (¬ (k.toNat : Int) = 43 → ¬ (k.toNat : Int) = 45 → ¬ (k.toNat : Int) = 42 → edL b k = ⟨b, b⟩) := fun h1 h2 h3 => by
    unfold edL
    rw [if_neg (fun e => h1 ((u8_eq k 43).2 e)), if_neg (fun e => h2 ((u8_eq k 45).2 e)), if_neg (fun e => h3 ((u8_eq k 42).2 e))]
  have H1 : Hid (LkL (w.setCell ⟨g, ls.length * 2, none⟩ (.int .u8 0)) g (ls ++ [⟨0, b⟩])) := by
    have := InC.list h (ls.length * 2) (.int .u8 0)
    rwa [show (Value.int .u8 0) = .int .u8 (((0 : UInt8).toNat : Nat) : Int) from rfl, llL_in] at this
  have H2 : Hid (LkL (w.setCell ⟨g, ls.length * 2 + 1, none⟩ (.int .u8 0)) g (ls ++ [⟨b, 0⟩])) := by
    have := InC.list h (ls.length * 2 + 1) (.int .u8 0)
    rwa [show (Value.int .u8 0) = .int .u8 (((0 : UInt8).toNat : Nat) : Int) from rfl, llL_out] at this
  have hsw := swapV_in (b.toNat : Int) (u8_in b).1 (u8_in b).2
  have H3 : Hid (LkL (w.setCell ⟨g, ls.length * 2 + 1, none⟩ (.int .u8 (swapV (b.toNat : Int)))) g (ls ++ [⟨b, byt (swapV (b.toNat : Int))⟩])) := by
    have := InC.list h (ls.length * 2 + 1) (.int .u8 (swapV (b.toNat : Int)))
    have e := byt_toNat _ hsw.1 hsw.2
    rw [show (Value.int .u8 (swapV (b.toNat : Int))) = .int .u8 ((byt (swapV (b.toNat : Int))).toNat : Int) by rw [e], llL_out] at this
    rw [e] at this
    exact this
  have HT : Hid (∀ j u, Touch g w (w.setCell ⟨g, j, none⟩ u)) := fun j u => (Touch.refl g w).put j u
  have H := Lib.hid h
  clear h hsw
  generalize hss : swapV (b.toNat : Int) = s at *
  generalize (k.toNat : Int) = kk at *
  go_enter Try.func56, Try.ntmps56
  by_cases h43 : kk = 43
  · have HR := Lib.hid (H43.out h43)
    subst h43
    go_wp2
    refine bodyPost_end (results_none rfl _ _ _) rfl ?_
    exact ⟨rfl, by rw [EditPost, HR.out]; exact ⟨H1.out, HT.out _ _⟩⟩
  by_cases h45 : kk = 45
  · have HR := Lib.hid (H45.out h45)
    subst h45
    go_wp2
    refine bodyPost_end (results_none rfl _ _ _) rfl ?_
    exact ⟨rfl, by rw [EditPost, HR.out]; exact ⟨H2.out, HT.out _ _⟩⟩
  by_cases h42 : kk = 42
  · have HR := Lib.hid (H42.out h42)
    subst h42
    go_wp2_with fail
    refine (implSwap_any _ _).mono ?_
    rintro e w2 ⟨rfl, rfl⟩
    rw [hss]
    go_wp2
    refine bodyPost_end (results_none rfl _ _ _) rfl ?_
    exact ⟨rfl, by rw [EditPost, HR.out]; exact ⟨H3.out, HT.out _ _⟩⟩
  · have HR := Lib.hid (HNO.out h43 h45 h42)
    go_wp2
    refine bodyPost_end (results_none rfl _ _ _) rfl ?_
    exact ⟨rfl, by rw [EditPost, HR.out]; exact ⟨H.out, Touch.refl _ _⟩⟩
end Go.Proofs.Ytlekcnddejnejaa
