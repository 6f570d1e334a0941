/- All rankings: mathematics; lists of lists laid in rows of the call's own. -/
import Derived.Test.YtnildbalaedlgaaRk12
import Derived.Test.YtnildbalaedlgaaRa
import Derived.Test.YtnildbalaedlgaaRb
import Derived.WalkKit
import Derived.BigQuiet
import Derived.Lib.QuietBelow
namespace Go.Proofs.Ytnildbalaedlgaa
set_option maxRecDepth 100000
open Go.RowKit Go.Sort
set_option linter.unusedVariables false
set_option linter.unusedSimpArgs false

/-- The lists that go on from l with one number below k that it lacks. -/
def rowE (l : List Int) (k : Nat) : List (List Int) := ((List.range k).filter fun (j : Nat) => !decide ((j : Int) ∈ l)).map fun (j : Nat) => l ++ [(j : Int)]
theorem rowE_zero (l : List Int) : rowE l 0 = [] := rfl
theorem rowE_in {l : List Int} {k : Nat} (h : (k : Int) ∈ l) : rowE l (k + 1) = rowE l k := by
  unfold rowE
  rw [List.range_succ, List.filter_append, List.map_append]
  simp [h]
theorem rowE_out {l : List Int} {k : Nat} (h : ¬ (k : Int) ∈ l) : rowE l (k + 1) = rowE l k ++ [l ++ [(k : Int)]] := by
  unfold rowE
  rw [List.range_succ, List.filter_append, List.map_append]
  simp [h]
theorem rowE_len (l : List Int) (k : Nat) : (rowE l k).length ≤ k := by
  unfold rowE
  rw [List.length_map]
  exact Nat.le_trans (List.length_filter_le _ _) (by simp)
theorem rowE_mem {l m : List Int} {k : Nat} (h : m ∈ rowE l k) : m.length = l.length + 1 := by
  unfold rowE at h
  obtain ⟨j, _, rfl⟩ := List.mem_map.1 h
  simp
def extTo (n : Nat) (L : List (List Int)) (i : Nat) : List (List Int) := (L.take i).flatMap fun l => rowE l n
def extL (n : Nat) (L : List (List Int)) : List (List Int) := L.flatMap fun l => rowE l n
theorem extTo_zero (n : Nat) (L : List (List Int)) : extTo n L 0 = [] := by simp [extTo]
theorem extTo_all (n : Nat) (L : List (List Int)) : extTo n L L.length = extL n L := by unfold extTo extL; rw [List.take_length]
theorem extTo_step (n : Nat) {L : List (List Int)} {i : Nat} {l : List Int} (h : L[i]? = some l) : extTo n L (i + 1) = extTo n L i ++ rowE l n := by
  unfold extTo
  rw [List.take_add_one, h, List.flatMap_append]
  simp
theorem flat_len {n : Nat} : ∀ L : List (List Int), (L.flatMap fun l => rowE l n).length ≤ L.length * n
  | [] => by simp
  | l :: L => by
    have h1 := flat_len (n := n) L
    have h2 := rowE_len l n
    rw [List.flatMap_cons, List.length_append, List.length_cons, Nat.succ_mul]
    omega
theorem extTo_len {n : Nat} (hn : n ≤ 5) {L : List (List Int)} (hL : L.length ≤ 625) (i : Nat) : (extTo n L i).length ≤ 3125 := by
  have h1 := flat_len (n := n) (L.take i)
  have h2 : (L.take i).length ≤ 625 := by rw [List.length_take]; omega
  have h3 : (L.take i).length * n ≤ 625 * 5 := Nat.mul_le_mul h2 hn
  unfold extTo; omega
def allTo (n : Nat) : Nat → List (List Int)
  | 0 => [[]]
  | i + 1 => extL n (allTo n i)
def allR (n : Int) : List (List Int) := if 1 ≤ n ∧ n ≤ 5 then allTo n.toNat n.toNat else []
theorem allTo_len {n : Nat} (hn : n ≤ 5) : ∀ i, (allTo n i).length ≤ 5 ^ i
  | 0 => by simp [allTo]
  | i + 1 => by
    have h1 := flat_len (n := n) (allTo n i)
    have h2 := allTo_len hn i
    have h3 : (allTo n i).length * n ≤ 5 ^ i * 5 := Nat.mul_le_mul h2 hn
    show (extL n (allTo n i)).length ≤ _
    unfold extL
    rw [Nat.pow_succ]; omega
theorem allTo_mem {n : Nat} : ∀ i m, m ∈ allTo n i → m.length = i
  | 0, m, h => by simp [allTo] at h; subst h; rfl
  | i + 1, m, h => by
    have h : m ∈ extL n (allTo n i) := h
    unfold extL at h
    obtain ⟨l, hl, hm⟩ := List.mem_flatMap.1 h
    rw [rowE_mem hm, allTo_mem i l hl]
theorem allTo_le {n : Nat} (hn : n ≤ 5) {i : Nat} (hi : i < 5) : (allTo n i).length ≤ 625 :=
  Nat.le_trans (allTo_len hn i) (Nat.le_trans (Nat.pow_le_pow_right (by omega) (by omega : i ≤ 4)) (by decide))
theorem allR_len (n : Int) : (allR n).length ≤ 3125 := by
  unfold allR
  split
  · rename_i h
    exact Nat.le_trans (allTo_len (by omega) _) (Nat.le_trans (Nat.pow_le_pow_right (by omega) (by omega : n.toNat ≤ 5)) (by decide))
  · simp
theorem allR_mem {n : Int} {m : List Int} (h : m ∈ allR n) : m.length ≤ 5 := by
  unfold allR at h
  split at h
  · rename_i hn
    have := allTo_mem _ _ h
    omega
  · simp at h
theorem allR_yes {n : Nat} (h1 : 1 ≤ n) (h2 : n ≤ 5) : allR (n : Int) = allTo n n := by
  unfold allR
  rw [if_pos (by omega), Int.toNat_natCast]
theorem allR_no {n : Int} (h : ¬ (1 ≤ n ∧ n ≤ 5)) : allR n = [] := by unfold allR; rw [if_neg h]

/-! Memory. -/
theorem flatInt12 : Flat Rep.int where
  free := fun h w' => h
  one := fun h u hu => by obtain ⟨rfl, _⟩ := h; simp at hu; subst hu; rfl
theorem oneRow12 {s : Bool} {w : World} {ys : List Value} {x : List Int} {F : Addr → Prop} (h : (Rep.row Rep.int).rd s w ys x F) : ∀ u ∈ ys, u.oneCell' = true := by
  obtain ⟨v, rfl, hr⟩ := h
  obtain ⟨A, cap, rfl⟩ := hr.form
  intro u hu
  simp at hu
  subst hu; rfl
theorem infoInt12 : (Try.prog.info? 3).map (fun i => (i.zero, i.size, i.bytes)) = some (some (.int .i64 0), 1, 8) := by kernel_rfl
theorem infoIS12 : (Try.prog.info? 22).map (fun i => (i.zero, i.size, i.bytes)) = some (some (.slice none 0 0), 1, 24) := by kernel_rfl
theorem RowRd.keptS {α : Type} {E : Rep α} {s : Bool} {w w' : World} {v : Value} {l : List α} {F : Addr → Prop} {B : Nat} (h : RowRd E s w v l F) (hF : ∀ a, F a → a.block < B) (hb : Below B w w') : RowRd E s w' v l F :=
  h.frame fun a ha => ⟨hb.cell (hF a ha), hb.frozen (hF a ha)⟩
/-- A row of rows of numbers of the call's own, all of it behind base. -/
def OwnII (base : Nat) (w : World) (v : Value) (p : List (List Int)) : Prop := OwnRd (Rep.row Rep.int) 22 true base w v p (fun a => base ≤ a.block ∧ a.block < w.heap.size)
theorem OwnII.kept {base : Nat} {w w' : World} {v : Value} {p : List (List Int)} (h : OwnII base w v p) (hb : Below w.heap.size w w') : OwnII base w' v p :=
  (OwnRd.kept h hb).mono fun a ha => ⟨ha.1, Nat.lt_of_lt_of_le ha.2 hb.size⟩
theorem OwnII.row {base : Nat} {w : World} {v : Value} {p : List (List Int)} (h : OwnII base w v p) (hm : p.length ≤ 1000000) : RowRd (Rep.row Rep.int) true w v p (fun a => base ≤ a.block) :=
  (OwnRd.row h (by omega)).mono fun a ha => by rcases ha with ha | ha; exact ha; exact ha.1
theorem OwnII.empty (w : World) {base : Nat} (hb : base ≤ w.heap.size) : OwnII base (w.alloc (.cells #[] 22)) (.slice (some ⟨w.heap.size, 0, none⟩) 0 0) [] := OwnRd.empty w hb _
theorem OwnII.nil (w : World) (base : Nat) : OwnII base w (.slice none 0 0) [] := OwnRd.nil w _
/-- 'append(next, row)' of a row that is new. -/
theorem wpList_row12 {ops : Array Oper} {rest : List Oper} {o : Oper} {a : Act} {Q : Exit → Act → World → Prop} (w0 w : World) (hgd : o.guard = none) (sl y : Operand)
    (ho : o.op = .call { callee := .builtin .append, args := #[sl, y], argTypes := #[28, 28] })
    (base : Nat) (v : Value) (p : List (List Int)) (h0 : OwnII base w0 v p) (hb0 : Below w0.heap.size w0 w) (hbase : base ≤ w0.heap.size) (hs : a.eval sl = v) (u : Value) (m : List Int) (hu : RowRd Rep.int true w u m (fun a => w0.heap.size ≤ a.block))
    (hy : a.eval y = .slice (some ⟨w.heap.size, 0, none⟩) 1 1) (hn : p.length ≤ 1000000)
    (h : ∀ v' w', OwnII base w' v' (p ++ [m]) → Below base w0 w' → wpList Try.prog ops Q rest (a.put o.dst v') w') :
    wpList Try.prog ops Q (o :: rest) a (w.alloc (.cells #[u] 22)) := by
  obtain ⟨i3, hi3, qz3, qz4, qz5⟩ := info_parts infoIS12
  have hsz := hb0.size
  have ht := hu.tight
  have hlt := OwnRd.lt h0
  refine wpList_append_el (Rep.row Rep.int) w hgd sl y 28 22 i3 (.slice none 0 0) 24 ho Try.underlying28 hi3 qz3 qz4 qz5 rfl (by decide) true base v p (fun a => base ≤ a.block ∧ a.block < w0.heap.size) (OwnRd.kept h0 hb0) hs [u] m (fun a => w0.heap.size ≤ a.block ∧ a.block < w.heap.size) ⟨u, rfl, ht⟩
    (fun a ha => ⟨ha.2, fun e => by have := (hlt _ e).2; omega⟩) (fun _ a ha hg => by omega) hy (oneRow12 (s := true) (w := w) (x := m) ⟨u, rfl, ht⟩) hn (by omega) (by omega) ?_
  intro v' w' h1 h2 h3 h4
  have h2s := h2.size
  refine h v' w' (OwnRd.mono h1 fun a ha => ?_) ((hb0.mono hbase).trans h2)
  rcases ha with ha | ha
  · exact ⟨ha.1, by omega⟩
  · exact ⟨by omega, by omega⟩
end Go.Proofs.Ytnildbalaedlgaa
