/- The model's ParseCandidate: what it answers. -/
import Derived.Test.YtlekcnddejnejaaMk1
import Derived.Test.YtlekcnddejnejaaMc3
import Derived.Test.YtlekcnddejnejaaIk4
import Derived.Deep.DeepCutAuto
namespace Go.Proofs.Ytlekcnddejnejaa
open Go.RowKit M
set_option linter.unusedVariables false
set_option linter.unusedSimpArgs false

theorem pm_yes {s : List UInt8} {ls : List DLink} (hn : ¬ s = noneB) (h : rdM s = some ls) (hf : fmtC ls = s) (he : s ≠ []) : prL s = ls ∧ prB s = true := by
  unfold prL prB; rw [← prM_eq]; unfold prM; rw [if_neg hn, h, Option.bind_some, if_pos ⟨hf, he⟩]; exact ⟨rfl, rfl⟩
theorem pm_no {s : List UInt8} {ls : List DLink} (hn : ¬ s = noneB) (h : rdM s = some ls) (hf : ¬ (fmtC ls = s ∧ s ≠ [])) : prL s = [] ∧ prB s = false := by
  unfold prL prB; rw [← prM_eq]; unfold prM; rw [if_neg hn, h, Option.bind_some, if_neg hf]; exact ⟨rfl, rfl⟩
theorem pm_bad {s : List UInt8} (hn : ¬ s = noneB) (h : rdM s = none) : prL s = [] ∧ prB s = false := by
  unfold prL prB; rw [← prM_eq]; unfold prM; rw [if_neg hn, h]; exact ⟨rfl, rfl⟩
def Rd (s : ByteArray) (k : Nat) (ls : List DLink) : Prop := rdM s.data.toList = (rdM (s.data.toList.drop k)).map (ls ++ ·)
theorem Rd.zero (s : ByteArray) : Rd s 0 [] := by unfold Rd; simp
theorem drop_at (s : ByteArray) (k : Nat) (h : k < s.size) : s.data.toList.drop k = s[k] :: s.data.toList.drop (k + 1) := by
  have h2 : k < s.data.toList.length := by simpa using h
  rw [List.drop_eq_getElem_cons h2]
  rfl
theorem Rd.all {s : ByteArray} {ls : List DLink} (h : Rd s s.size ls) : rdM s.data.toList = some ls := by
  unfold Rd at h
  rw [h, List.drop_eq_nil_of_le (by simp)]
  simp [rdM]
theorem map_more (o : Option (List DLink)) (ls : List DLink) (x : DLink) : (o.map (x :: ·)).map (ls ++ ·) = o.map ((ls ++ [x]) ++ ·) := by
  cases o <;> simp
theorem Rd.plain {s : ByteArray} {k : Nat} {ls : List DLink} (h : Rd s k ls) (hk : k < s.size) (h1 : ¬ (s[k].toNat : Int) = 43) (h2 : ¬ (s[k].toNat : Int) = 45) (h3 : ¬ (s[k].toNat : Int) = 42) : Rd s (k + 1) (ls ++ [⟨s[k], s[k]⟩]) := by
  unfold Rd at *
  rw [h, drop_at s k hk, rdM_plain (by rintro (e | e | e); exact h1 ((u8_eq _ 43).2 e); exact h2 ((u8_eq _ 45).2 e); exact h3 ((u8_eq _ 42).2 e)), map_more]
theorem Rd.sign {s : ByteArray} {k : Nat} {ls : List DLink} (h : Rd s k ls) (hk : k + 1 < s.size) (h1 : (s[k].toNat : Int) = 43 ∨ (s[k].toNat : Int) = 45 ∨ (s[k].toNat : Int) = 42) : Rd s (k + 2) (ls ++ [edL s[k + 1] s[k]]) := by
  unfold Rd at *
  rw [h, drop_at s k (by omega), drop_at s (k + 1) hk, rdM_sign (by rcases h1 with e | e | e; exact Or.inl ((u8_eq _ 43).1 e); exact Or.inr (Or.inl ((u8_eq _ 45).1 e)); exact Or.inr (Or.inr ((u8_eq _ 42).1 e))), map_more]
theorem Rd.bad {s : ByteArray} {k : Nat} {ls : List DLink} (h : Rd s k ls) (hk : k < s.size) (hk2 : k + 1 = s.size) (h1 : (s[k].toNat : Int) = 43 ∨ (s[k].toNat : Int) = 45 ∨ (s[k].toNat : Int) = 42) : rdM s.data.toList = none := by
  unfold Rd at *
  rw [h, drop_at s k hk, List.drop_eq_nil_of_le (by simp; omega), rdM_end (by rcases h1 with e | e | e; exact Or.inl ((u8_eq _ 43).1 e); exact Or.inr (Or.inl ((u8_eq _ 45).1 e)); exact Or.inr (Or.inr ((u8_eq _ 42).1 e)))]
  rfl
theorem ed43 {b k : UInt8} (h : (k.toNat : Int) = 43) : edL b k = ⟨0, b⟩ := by have : k = 43 := (u8_eq k 43).1 h; subst this; rfl
theorem ed45 {b k : UInt8} (h : (k.toNat : Int) = 45) : edL b k = ⟨b, 0⟩ := by have : k = 45 := (u8_eq k 45).1 h; subst this; rfl
theorem ed42 {b k : UInt8} (h : (k.toNat : Int) = 42) : edL b k = ⟨b, byt (swapV (b.toNat : Int))⟩ := by have : k = 42 := (u8_eq k 42).1 h; subst this; rfl
theorem lk_more (ls : List DLink) (x : DLink) : (ls ++ [x]).flatMap lkC = ls.flatMap lkC ++ [.int .u8 (x.In.toNat : Int), .int .u8 (x.Out.toNat : Int)] := by
  rw [List.flatMap_append]; rfl
/-- The loop's state: the row of links, the boxes of the result and of the row. -/
structure PSt (w : World) (k : Nat) (ls : List DLink) (v : Value) (wr : World) : Prop where
  own : wr.ownsRow (w.heap.size + 2) 42 2 v ls.length (ls.flatMap lkC)
  res : InC wr w.heap.size #[.slice none 0 0] 29
  box : InC wr (w.heap.size + 1) #[v] 29
  bel : Below w.heap.size w wr
  size : w.heap.size + 2 ≤ wr.heap.size
  len : ls.length ≤ k
theorem PSt.kept {w wr w' : World} {k : Nat} {ls : List DLink} {v : Value} (h : PSt w k ls v wr) (hb : Below wr.heap.size wr w') : PSt w k ls v w' :=
  ⟨own_keep h.own hb, h.res.kept hb, h.box.kept hb, h.bel.trans (hb.mono h.bel.size), Nat.le_trans h.size hb.size, h.len⟩
theorem PSt.touch {w wr w' : World} {k g : Nat} {cs : Array Value} {ls : List DLink} {v : Value} (h : PSt w k ls v wr) (ht : Touch g wr w') (hg : InC wr g cs 42) (hb : w.heap.size + 2 ≤ g) (hv : v.ownBlock ≠ some g) : PSt w k ls v w' := by
  refine ⟨⟨h.own.1, ?_⟩, ht.inC (by omega) h.res, ht.inC (by omega) h.box, h.bel.trans (ht.below (by omega)), Nat.le_trans h.size (Nat.le_of_eq ht.size.symm), h.len⟩
  rcases h.own.2 with hn | ⟨g', cap, cur, rfl, hg0, hg', rest⟩
  · exact Or.inl hn
  · exact Or.inr ⟨g', cap, cur, rfl, hg0, (ht.block g' (fun e => hv (by simp [Value.ownBlock, e]))).trans hg', rest⟩
end Go.Proofs.Ytlekcnddejnejaa
