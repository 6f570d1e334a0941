/- Merged: N10 Cv Dec F1c Sh N2v So Ms8 Ms9. -/
import Derived.Test.YtcgmlhlnkbjfnaaGreatDoorQ3
import Derived.Lib.SplitLaws
import Derived.Lib.Join
import Derived.Test.YtcgmlhlnkbjfnaaGreatDoorQ1
import Derived.Lib.ItoaMem
import Derived.Lib.ItoaLen
import Derived.Test.YtcgmlhlnkbjfnaaGreatDoorQ2
import Derived.Laws.IdiomStrings
import Derived.Lib.Slices
import Derived.Test.YtcgmlhlnkbjfnaaGreatDoorQ4
import Derived.LoopN
import Derived.BigQuiet
import Derived.BigRegion
/- A text cut at a byte, and joined again: plain mathematics. -/
namespace Go.Proofs.YtcgmlhlnkbjfnaaGreatDoor
set_option maxRecDepth 100000
open Go.RowKit M

def cutU (c : UInt8) : List UInt8 → List (List UInt8)
  | [] => [[]]
  | b :: r => if b = c then [] :: cutU c r else match cutU c r with
    | x :: t => (b :: x) :: t
    | [] => [[b]]
theorem cutU_ne (c : UInt8) : ∀ s, ∃ x t, cutU c s = x :: t
  | [] => ⟨[], [], rfl⟩
  | b :: r => by
    unfold cutU
    split
    · exact ⟨_, _, rfl⟩
    · obtain ⟨x, t, h⟩ := cutU_ne c r
      rw [h]; exact ⟨_, _, rfl⟩
theorem cutU_len (c : UInt8) (s : List UInt8) : 1 ≤ (cutU c s).length := by
  obtain ⟨x, t, h⟩ := cutU_ne c s
  rw [h]; simp
theorem pre_one (c b : UInt8) (l : List UInt8) : [c].isPrefixOf (b :: l) = (c == b) := by
  simp [List.isPrefixOf]
theorem splitK_cut (c : UInt8) : ∀ s : List UInt8, Lib.splitK [c] 0 (Lib.count s [c]) s = cutU c s
  | [] => rfl
  | b :: r => by
    by_cases hb : b = c
    · subst hb
      rw [Lib.count_cons_eq, Nat.add_comm]
      have hi : Lib.index (b :: r) [b] = 0 := by unfold Lib.index; rw [pre_one]; simp
      unfold Lib.splitK cutU
      rw [hi, if_neg (by decide), if_pos rfl]
      simp [splitK_cut b r]
    · rw [Lib.count_cons_ne b c r hb]
      unfold cutU
      rw [if_neg hb]
      have ih := splitK_cut c r
      have hi : Lib.index (b :: r) [c] = if Lib.index r [c] == -1 then -1 else Lib.index r [c] + 1 := by
        conv => lhs; unfold Lib.index
        rw [pre_one, if_neg (by simpa using fun h => hb h.symm)]
      cases hk : Lib.count r [c] with
      | zero =>
        rw [hk] at ih
        rw [← ih]; rfl
      | succ k =>
        rw [hk] at ih
        have hm : Lib.index r [c] ≠ -1 := fun e => by rw [Lib.count_miss e] at hk; cases hk
        have hge := Lib.index_ge r [c]
        have hm1 : ¬ (Lib.index r [c] == -1) = true := fun e => hm (by simpa using e)
        have hm2 : ¬ (Lib.index r [c] + 1 == -1) = true := fun e => by have := (beq_iff_eq.1 e); omega
        unfold Lib.splitK at ih ⊢
        rw [if_neg hm1] at ih
        rw [hi, if_neg hm1, if_neg hm2, ← ih]
        have e1 : (Lib.index r [c] + 1).toNat = (Lib.index r [c]).toNat + 1 := by omega
        simp only [e1]
        rw [show (Lib.index r [c]).toNat + 1 + 0 = ((Lib.index r [c]).toNat + 0) + 1 by omega, List.take_succ_cons, show (Lib.index r [c]).toNat + 1 + [c].length = ((Lib.index r [c]).toNat + [c].length) + 1 by omega, List.drop_succ_cons]
        rfl
/-- One byte more. -/
def cutStep (c : UInt8) (st : List (List UInt8) × List UInt8) (b : UInt8) : List (List UInt8) × List UInt8 :=
  if b = c then (st.1 ++ [st.2], []) else (st.1, st.2 ++ [b])
theorem cut_fold (c : UInt8) : ∀ (s : List UInt8) (o : List (List UInt8)) (p x : List UInt8) (t : List (List UInt8)), cutU c s = x :: t → (s.foldl (cutStep c) (o, p)).1 ++ [(s.foldl (cutStep c) (o, p)).2] = o ++ (p ++ x) :: t
  | [], o, p, x, t, h => by cases h; simp
  | b :: r, o, p, x, t, h => by
    obtain ⟨y, u, hr⟩ := cutU_ne c r
    unfold cutU at h
    rw [List.foldl_cons]
    by_cases hb : b = c
    · rw [if_pos hb, hr] at h
      cases h
      have := cut_fold c r (o ++ [p]) [] y u hr
      unfold cutStep at this ⊢
      simp only [if_pos hb]
      rw [this]; simp
    · rw [if_neg hb, hr] at h
      cases h
      have := cut_fold c r o (p ++ [b]) y _ hr
      unfold cutStep at this ⊢
      simp only [if_neg hb]
      rw [this]; simp
theorem cut_sum (c : UInt8) : ∀ s : List UInt8, ((cutU c s).map fun z => z.length + 1).sum = s.length + 1
  | [] => rfl
  | b :: r => by
    have ih := cut_sum c r
    unfold cutU
    split
    · simp [ih]; omega
    · obtain ⟨y, u, hr⟩ := cutU_ne c r
      rw [hr] at ih ⊢
      simp at ih ⊢
      omega

theorem sub_add_sum {α : Type} (f : α → Nat) (n : Nat) : ∀ l : List α, (∀ x ∈ l, f x ≤ n) → (l.map f).sum ≤ n * l.length
  | [], _ => by simp
  | x :: l, h => by
    have h1 := sub_add_sum f n l (fun y hy => h y (List.mem_cons_of_mem _ hy))
    have h2 := h x (List.mem_cons_self ..)
    simp only [List.map_cons, List.sum_cons, List.length_cons, Nat.mul_succ]
    omega
theorem data_size (x : ByteArray) : x.data.toList.length = x.size := by rw [Array.length_toList]; rfl
/-- The parts of a text between its commas. -/
def cutB (s : ByteArray) : List ByteArray := (cutU 44 s.data.toList).map fun z => ⟨z.toArray⟩
theorem cutB_data (s : ByteArray) : (cutB s).map (·.data.toList) = cutU 44 s.data.toList := by
  unfold cutB
  rw [List.map_map]
  conv => rhs; rw [← List.map_id (cutU 44 s.data.toList)]
  apply List.map_congr_left
  intro z _
  simp
theorem cutB_len (s : ByteArray) : (cutB s).length = (cutU 44 s.data.toList).length := by unfold cutB; rw [List.length_map]
theorem split_cut (s : ByteArray) : Lib.splitB ⟨#[44]⟩ 0 (Lib.countB s ⟨#[44]⟩) s = cutB s := by
  have h := Lib.splitB_data ⟨#[44]⟩ 0 (Lib.countB s ⟨#[44]⟩) s
  have h2 := splitK_cut 44 s.data.toList
  have h3 : (Lib.splitB ⟨#[44]⟩ 0 (Lib.countB s ⟨#[44]⟩) s).map (·.data.toList) = cutU 44 s.data.toList := h.trans h2
  unfold cutB
  rw [← h3, List.map_map]
  conv => lhs; rw [← List.map_id (Lib.splitB ⟨#[44]⟩ 0 (Lib.countB s ⟨#[44]⟩) s)]
  apply List.map_congr_left
  intro z _
  simp
theorem cutB_size {x : ByteArray} {s : ByteArray} (h : x ∈ cutB s) : x.size ≤ s.size := by
  unfold cutB at h
  rw [List.mem_map] at h
  obtain ⟨z, hz, rfl⟩ := h
  have h1 := cut_sum 44 s.data.toList
  have h2 : z.length + 1 ≤ ((cutU 44 s.data.toList).map fun z => z.length + 1).sum := by
    generalize cutU 44 s.data.toList = L at hz
    induction L with
    | nil => cases hz
    | cons y L ih =>
      simp only [List.map_cons, List.sum_cons]
      cases hz with
      | head => omega
      | tail _ h => have := ih h; omega
  rw [data_size] at h1
  have h3 : (⟨z.toArray⟩ : ByteArray).size = z.length := rfl
  omega
theorem cutB_le (s : ByteArray) : (cutB s).length ≤ s.size + 1 := by
  rw [cutB_len]
  have h1 := cut_sum 44 s.data.toList
  rw [data_size] at h1
  have h2 : ∀ L : List (List UInt8), L.length ≤ (L.map fun z => z.length + 1).sum := by
    intro L
    induction L with
    | nil => simp
    | cons y L ih => simp only [List.map_cons, List.sum_cons, List.length_cons]; omega
  have := h2 (cutU 44 s.data.toList)
  omega
theorem areC_cut_short {s : ByteArray} (h : areC (cutB s) = true) : s.size ≤ 100 := by
  obtain ⟨_, h5⟩ := areC_len h
  have hm : ∀ x ∈ cutB s, x.size + 1 ≤ 8 := fun x hx => by
    obtain ⟨k, hk, rfl⟩ := List.getElem_of_mem hx
    have := name_size (areC_mem h (List.getElem?_eq_getElem hk)).1
    omega
  have h1 := cut_sum 44 s.data.toList
  rw [data_size, ← cutB_data, List.map_map] at h1
  have h2 := sub_add_sum (fun x : ByteArray => x.size + 1) 8 (cutB s) hm
  have h3 : ((cutB s).map ((fun z : List UInt8 => z.length + 1) ∘ fun x => x.data.toList)) = (cutB s).map fun x => x.size + 1 := by
    apply List.map_congr_left
    intro x _
    simp only [Function.comp, data_size]
  rw [h3] at h1
  omega
/-- What is read, and whether. -/
def prsN (s : ByteArray) : List ByteArray := if areC (cutB s) then cutB s else []
/-- One byte more, over texts. -/
def outK (s : ByteArray) (k : Nat) : List ByteArray := ((s.data.toList.take k).foldl (cutStep 44) ([], [])).1.map fun z => ⟨z.toArray⟩
def partK (s : ByteArray) (k : Nat) : ByteArray := ⟨((s.data.toList.take k).foldl (cutStep 44) ([], [])).2.toArray⟩
theorem outK_zero (s : ByteArray) : outK s 0 = [] := rfl
theorem partK_zero (s : ByteArray) : partK s 0 = ⟨#[]⟩ := rfl
theorem outK_end (s : ByteArray) : outK s s.size ++ [partK s s.size] = cutB s := by
  unfold outK partK cutB
  rw [show s.data.toList.take s.size = s.data.toList by rw [← data_size, List.take_length]]
  obtain ⟨x, t, h⟩ := cutU_ne 44 s.data.toList
  have := cut_fold 44 s.data.toList [] [] x t h
  rw [h]
  simp only [List.nil_append] at this
  rw [← this]
  simp
theorem fold_succ (s : ByteArray) (k : Nat) (b : UInt8) (h : s.data.toList[k]? = some b) : (s.data.toList.take (k + 1)).foldl (cutStep 44) ([], []) = cutStep 44 ((s.data.toList.take k).foldl (cutStep 44) ([], [])) b := by
  rw [List.take_add_one, h, List.foldl_append]; rfl
theorem out_comma (s : ByteArray) (k : Nat) (h : s.data.toList[k]? = some 44) : outK s (k + 1) = outK s k ++ [partK s k] ∧ partK s (k + 1) = ⟨#[]⟩ := by
  unfold outK partK
  rw [fold_succ s k 44 h]
  unfold cutStep
  simp
theorem out_other (s : ByteArray) (k : Nat) (b : UInt8) (h : s.data.toList[k]? = some b) (hb : b ≠ 44) : outK s (k + 1) = outK s k ∧ partK s (k + 1) = partK s k ++ ⟨#[b]⟩ := by
  unfold outK partK
  rw [fold_succ s k b h]
  unfold cutStep
  rw [if_neg hb]
  refine ⟨rfl, ?_⟩
  apply ByteArray.ext
  simp
theorem part_size (s : ByteArray) : ∀ k, (partK s k).size ≤ k ∧ (outK s k).length ≤ k
  | 0 => ⟨by rw [partK_zero]; exact Nat.le_refl 0, by rw [outK_zero]; exact Nat.le_refl 0⟩
  | k + 1 => by
    have ih := part_size s k
    by_cases h : k < s.data.toList.length
    · have hk := List.getElem?_eq_getElem h
      by_cases hb : s.data.toList[k] = 44
      · rw [hb] at hk
        rw [(out_comma s k hk).1, (out_comma s k hk).2, List.length_append, List.length_singleton]
        have : (⟨#[]⟩ : ByteArray).size = 0 := rfl
        omega
      · rw [(out_other s k _ hk hb).1, (out_other s k _ hk hb).2, ByteArray.size_append]
        have : (⟨#[s.data.toList[k]]⟩ : ByteArray).size = 1 := rfl
        omega
    · have e : s.data.toList.take (k + 1) = s.data.toList.take k := by rw [List.take_of_length_le (by omega), List.take_of_length_le (by omega)]
      unfold partK outK at ih ⊢
      rw [e]
      omega
theorem join_take (l : List ByteArray) : ∀ k, k ≤ l.length → (joinN l k).data.toList = Lib.join ((l.take k).map (·.data.toList)) [44]
  | 0, _ => rfl
  | k + 1, hk => by
    have ih := join_take l k (by omega)
    have hx := List.getElem?_eq_getElem (l := l) (i := k) (by omega)
    have hg : l.getD k ByteArray.empty = l[k] := by rw [List.getD_eq_getElem?_getD, hx]; rfl
    unfold joinN
    rw [hg]
    cases k with
    | zero =>
      rw [if_neg (by omega)]
      have e : l.take 1 = [l[0]] := by
        cases l with
        | nil => simp at hk
        | cons a t => rfl
      rw [e, List.map_cons, List.map_nil, Lib.join_one]
      show (joinN l 0 ++ l[0]).data.toList = _
      simp [joinN]
    | succ k =>
      rw [if_pos (by omega)]
      obtain ⟨a, t, rfl⟩ : ∃ a t, l = a :: t := by
        cases l with
        | nil => simp at hk
        | cons a t => exact ⟨a, t, rfl⟩
      rw [List.take_succ_cons, List.map_cons, Lib.join_cons] at ih ⊢
      have h2 : (t.map (·.data.toList))[k]? = some (t[k]'(by simp at hk; omega)).data.toList := by rw [List.getElem?_map, List.getElem?_eq_getElem (by simp at hk; omega)]; rfl
      have h3 := Lib.joinTail_take_succ [44] (t.map (·.data.toList)) k _ h2
      rw [List.map_take, h3]
      rw [List.map_take] at ih
      simp only [ByteArray.data_append, Array.toList_append, ih]
      simp
theorem join_all (l : List ByteArray) : (⟨(Lib.join (l.map (·.data.toList)) [44]).toArray⟩ : ByteArray) = joinN l l.length := by
  have h := join_take l l.length (Nat.le_refl _)
  rw [List.take_length] at h
  rw [← h]
end Go.Proofs.YtcgmlhlnkbjfnaaGreatDoor

/- The conversion of a block of one byte to a text. -/
namespace Go.Proofs.YtcgmlhlnkbjfnaaGreatDoor
set_option maxRecDepth 100000
open Go.RowKit M

/-- 'string([]byte{b})': the conversion of a new block of one byte. -/
theorem conv_one (w : World) (u : Int) :
    (convert 111 9 (.slice (some ⟨w.heap.size, 0, none⟩) 1 1)).run Tryz.prog (w.alloc (.cells #[.int .u8 u] 5)) = .ok (.string ⟨#[UInt8.ofNat u.toNat]⟩) (w.alloc (.cells #[.int .u8 u] 5)) := by
  rw [run_convert_bytes_string _ 111 9 5 _ _ _ Tryz.underlying111 Tryz.underlying5 Tryz.underlying9]
  rw [run_bytesToString _ _ 1 1 [u]]
  · rfl
  · have := run_loadCells_list (P := Tryz.prog) (w.alloc (.cells #[.int .u8 u] 5)) ⟨w.heap.size, 0, none⟩ [.int .u8 u] (cell_one_new _ _ _)
    simpa using this

end Go.Proofs.YtcgmlhlnkbjfnaaGreatDoor

/- Decimal numerals: plain mathematics on numbers and lists of bytes, no condition. -/
namespace Go.Proofs.YtcgmlhlnkbjfnaaGreatDoor.M
set_option maxRecDepth 100000
open Go.Lib
/-- The digits of c, none for 0. -/
def dd (c : Nat) : List UInt8 := if c = 0 then [] else decDigits c
theorem dd_pos {c : Nat} (h : 0 < c) : dd c = decDigits c := by unfold dd; rw [if_neg (by omega)]
theorem dd_zero : dd 0 = [] := rfl
theorem dd_step {c : Nat} (h : 0 < c) : dd c = dd (c / 10) ++ [byt (48 + (c % 10 : Nat))] := by
  rw [dd_pos h, decDigits]
  have hb : ∀ d : Nat, byt (48 + (d : Int)) = UInt8.ofNat (48 + d) := fun d => by unfold byt; congr 1
  split
  · rename_i h9
    rw [show c / 10 = 0 by omega, dd_zero, hb, Nat.mod_eq_of_lt h9]
    rfl
  · rw [dd_pos (by omega), hb]
theorem lt_div (c f : Nat) (h : c < 10 ^ (f + 1)) : c / 10 < 10 ^ f := by
  rw [Nat.pow_succ] at h
  omega
theorem byt_digit (d : Nat) : byt (48 + (d : Int)) = 48 + UInt8.ofNat d := by
  unfold byt
  rw [show ((48 : Int) + (d : Int)).toNat = 48 + d by omega, UInt8.ofNat_add]
  rfl
theorem cat_one (a : UInt8) (l : List UInt8) : (⟨#[a]⟩ : ByteArray) ++ ⟨l.toArray⟩ = ⟨(a :: l).toArray⟩ := by
  apply ByteArray.ext
  simp
end Go.Proofs.YtcgmlhlnkbjfnaaGreatDoor.M

/- spec.FormatInt: what the model answers: the decimal numeral. -/
namespace Go.Proofs.YtcgmlhlnkbjfnaaGreatDoor
set_option maxRecDepth 100000
open Go.RowKit M Go.Lib

theorem fmt_zero (w : World) : Calls Tryz.prog 105 #[.int .i64 0] w fun e w' => e = .returned (.string ⟨(itoa 0).toArray⟩) ∧ Below w.heap.size w w' := by
  have e : itoa 0 = [48] := by rw [show (0 : Int) = ((0 : Nat) : Int) from rfl, itoa_nonneg, decDigits_one (by omega)]; rfl
  have H := Lib.hid e
  clear e
  go_enter Tryz.func105, Tryz.ntmps105
  go_wp2
  go_ret
  exact ⟨ret_str (by rw [H.out]), Below.refl _ _⟩

set_option maxHeartbeats 400000 in
theorem fmt_pos (m : Nat) (w : World) (h0 : 1 ≤ m) (h1 : m ≤ 9223372036854775807) :
    Calls Tryz.prog 105 #[.int .i64 m] w fun e w' => e = .returned (.string ⟨(itoa m).toArray⟩) ∧ Below w.heap.size w w' := by
  have kc := conv_one
  have ht : ((m : Int) == 0) = false := by simp; omega
  go_enter Tryz.func105, Tryz.ntmps105
  go_wp2
  go_loopw [0, 3] (fun x o wr => ∃ (c f j : Nat) (out : List UInt8), c ≤ 9223372036854775807 ∧ j ≤ 19 ∧ x = .int .i64 c ∧ o = .string ⟨out.toArray⟩ ∧ Hid (out.length = j) ∧
      Hid (j + f = 19) ∧ Hid (c < 10 ^ f) ∧ Hid (dd m = dd c ++ out) ∧ Below w.heap.size w wr) (fun x _ _ => (intOf x).toNat)
  case atStart => exact ⟨m, 19, 0, [], h1, by omega, rfl, rfl, rfl, rfl, by unfold Hid; omega, by simp [Hid], Below.refl _ _⟩
  case round =>
    obtain ⟨c, f, j, out, hc, hj, rfl, rfl, hlen, hf, hlt, hd, hb⟩ := hrel
    by_cases hz : c = 0
    · subst hz
      have HE : Hid (itoa (m : Int) = out) := by
        have := hd.out
        unfold Hid
        rw [itoa_nonneg, ← dd_pos h0, this, dd_zero, List.nil_append]
      go_wp2
      go_ret
      exact ⟨ret_str (by rw [HE.out]), hb⟩
    · have hcp : 1 ≤ c := by omega
      have hz' : ((c : Int) == 0) = false := by simpa using hz
      have hz2 : ((c : Int) != 0) = true := by simpa using hz
      have hl : ¬ 9223372036854775807 < 1 + out.length := by have := hlen.out; omega
      have hm0 : 0 ≤ (c : Int) % 10 := by omega
      clear hz
      go_wp2
      go_roundw
      case rel =>
        obtain ⟨f, rfl⟩ : ∃ g, f = g + 1 := by
          rcases f with _ | f
          · have := hlt.out; omega
          · exact ⟨f, rfl⟩
        refine ⟨c / 10, f, j + 1, byt (48 + (c % 10 : Nat)) :: out, by omega, ?_, by go_num, ?_, ?_, ?_, ?_, ?_, hb.alloc hb.size _⟩
        · have := hf.out; omega
        · rw [byt_digit, cat_one]
        · have := hlen.out; unfold Hid; simp [this]
        · have := hf.out; unfold Hid; omega
        · exact lt_div c f hlt.out
        · have := hd.out; unfold Hid; rw [this, dd_step hcp]; simp
      case measure => simp [intOf]; omega
set_option maxHeartbeats 400000 in
theorem fmt_neg (m : Nat) (w : World) (h0 : 1 ≤ m) (h1 : m ≤ 9223372036854775808) :
    Calls Tryz.prog 105 #[.int .i64 (-(m : Int))] w fun e w' => e = .returned (.string ⟨(itoa (-(m : Int))).toArray⟩) ∧ Below w.heap.size w w' := by
  have kc := conv_one
  have ht : ((-(m : Int)) == 0) = false := by simp; omega
  have hneg : -(m : Int) < 0 := by omega
  go_enter Tryz.func105, Tryz.ntmps105
  go_wp2
  go_loopw [0, 3] (fun x o wr => ∃ (c f j : Nat) (out : List UInt8), c ≤ 9223372036854775808 ∧ j ≤ 19 ∧ x = .int .i64 (-(c : Int)) ∧ o = .string ⟨out.toArray⟩ ∧ Hid (out.length = j) ∧
      Hid (j + f = 19) ∧ Hid (c < 10 ^ f) ∧ Hid (dd m = dd c ++ out) ∧ Below w.heap.size w wr) (fun x _ _ => (-(intOf x)).toNat)
  case atStart => exact ⟨m, 19, 0, [], h1, by omega, rfl, rfl, rfl, rfl, by unfold Hid; omega, by simp [Hid], Below.refl _ _⟩
  case round =>
    obtain ⟨c, f, j, out, hc, hj, rfl, rfl, hlen, hf, hlt, hd, hb⟩ := hrel
    have hl : ¬ 9223372036854775807 < 1 + out.length := by have := hlen.out; omega
    by_cases hz : c = 0
    · subst hz
      have HE : Hid (itoa (-(m : Int)) = 45 :: out) := by
        have := hd.out
        unfold Hid
        rw [itoa_neg m h0, ← dd_pos h0, this, dd_zero, List.nil_append]
      go_wp2
      go_ret
      exact ⟨ret_str (by rw [HE.out, cat_one]), hb⟩
    · have hcp : 1 ≤ c := by omega
      have hz2 : ((-(c : Int)) != 0) = true := by simpa using hz
      have hm2 : (-(c : Int)).tdiv 10 = -((c : Int) / 10) := by rw [Int.neg_tdiv, Int.tdiv_eq_ediv_of_nonneg (by omega)]
      have hm0 : 0 ≤ (c : Int) % 10 := by omega
      obtain ⟨f, rfl⟩ : ∃ g, f = g + 1 := by
        rcases f with _ | f
        · have := hlt.out; omega
        · exact ⟨f, rfl⟩
      have HR : Hid (j + 1 ≤ 19 ∧ (out.length + 1 = j + 1) ∧ (j + 1 + f = 19) ∧ c / 10 < 10 ^ f ∧ dd m = dd (c / 10) ++ (byt (48 + (c % 10 : Nat)) :: out)) := by
        have h1 := hf.out
        have h2 := hlen.out
        have h3 := hd.out
        refine ⟨by omega, by omega, by omega, lt_div c f hlt.out, ?_⟩
        rw [h3, dd_step hcp]; simp
      by_cases h10 : c % 10 = 0
      · have hm1 : (-(c : Int)).tmod 10 = 0 := by rw [Int.neg_tmod, Int.tmod_eq_emod_of_nonneg (by omega)]; omega
        have HB : Hid (byt (48 + (c % 10 : Nat)) = 48) := by rw [h10]; rfl
        clear hz h10
        go_wp2
        go_roundw
        case rel =>
          refine ⟨c / 10, f, j + 1, byt (48 + (c % 10 : Nat)) :: out, by omega, HR.out.1, by go_num, ?_, HR.out.2.1, HR.out.2.2.1, HR.out.2.2.2.1, HR.out.2.2.2.2, hb.alloc hb.size _⟩
          rw [HB.out, ← cat_one]; try rfl
        case measure => simp [intOf]; omega
      · have hm1 : (-(c : Int)).tmod 10 = -((c : Int) % 10) := by rw [Int.neg_tmod, Int.tmod_eq_emod_of_nonneg (by omega)]
        have hm3 : 1 ≤ (c : Int) % 10 := by omega
        clear hz h10
        go_wp2
        go_ways
        go_roundw
        case rel =>
          refine ⟨c / 10, f, j + 1, byt (48 + (c % 10 : Nat)) :: out, by omega, HR.out.1, by go_num, ?_, HR.out.2.1, HR.out.2.2.1, HR.out.2.2.2.1, HR.out.2.2.2.2, hb.alloc hb.size _⟩
          rw [byt_digit, ← cat_one]; try rfl
        case measure => simp [intOf]; omega
end Go.Proofs.YtcgmlhlnkbjfnaaGreatDoor

/- The model's HasFeature: what it answers. -/
namespace Go.Proofs.YtcgmlhlnkbjfnaaGreatDoor
set_option maxRecDepth 100000
open Go.RowKit

set_option maxHeartbeats 400000 in
theorem specHas_any (x f : Int) (w : World) :
    Calls Tryz.prog 145 #[.int .u8 x, .int .i64 f] w fun e w' => e = .returned (.bool (hasF x f)) ∧ w = w' := by
  go_enter Tryz.func145, Tryz.ntmps145
  go_wp2
  all_goals
    go_ret
    refine ⟨ret_bool ?_, rfl⟩
    unfold hasF
    simp_all
end Go.Proofs.YtcgmlhlnkbjfnaaGreatDoor

/- The model's IsVowelAt: what they answer. -/
namespace Go.Proofs.YtcgmlhlnkbjfnaaGreatDoor
set_option maxRecDepth 100000
open Go.RowKit M

theorem specVow_any (s : ByteArray) (i : Int) (w : World) :
    Calls Tryz.prog 143 #[.string s, .int .i64 i] w fun e w' => e = .returned (.bool (vowAt s i)) ∧ w = w' := by
  by_cases h : 0 ≤ i ∧ i < (s.size : Int)
  · obtain ⟨k, rfl⟩ := Int.eq_ofNat_of_zero_le h.1
    have hk : k < s.size := by omega
    have HE := Lib.hid (vowAt_in s k hk)
    have HB := Lib.hid (bAt_in s k hk)
    have hk2 : (k : Int) < (s.size : Int) := h.2
    have hk0 : (0 : Int) ≤ (k : Int) := h.1
    clear h
    go_enter Tryz.func143, Tryz.ntmps143
    go_wp2_with fail
    refine (specHas_any _ _ _).mono ?_
    rintro e w2 ⟨rfl, rfl⟩
    go_wp2
    go_ret
    exact ⟨ret_bool (by rw [HE.out, ← HB.out]), rfl⟩
  · have HE : Hid (vowAt s i = false) := by
      unfold Hid vowAt
      by_cases h0 : 0 ≤ i
      · have h2 : ¬ i < (s.size : Int) := fun h1 => h ⟨h0, h1⟩
        simp [h2]
      · simp [h0]
    by_cases h0 : 0 ≤ i
    · have h2 : ¬ i < (s.size : Int) := fun h1 => h ⟨h0, h1⟩
      clear h
      go_enter Tryz.func143, Tryz.ntmps143
      go_wp2
      go_ret
      exact ⟨ret_bool HE.out.symm, rfl⟩
    · clear h
      go_enter Tryz.func143, Tryz.ntmps143
      go_wp2
      go_ret
      exact ⟨ret_bool HE.out.symm, rfl⟩
end Go.Proofs.YtcgmlhlnkbjfnaaGreatDoor

/- The model's IsObstruent: what it answers. -/
namespace Go.Proofs.YtcgmlhlnkbjfnaaGreatDoor
set_option maxRecDepth 100000
open Go.RowKit

theorem specIsObs_any (x : Int) (w : World) :
    Calls Tryz.prog 146 #[.int .u8 x] w fun e w' => e = .returned (.bool (isObs x)) ∧ w = w' := by
  go_enter Tryz.func146, Tryz.ntmps146
  go_wp2
  all_goals
    go_ret
    refine ⟨ret_bool ?_, rfl⟩
    unfold isObs
    simp_all
end Go.Proofs.YtcgmlhlnkbjfnaaGreatDoor

/- The model's marks of forms: what they answer. -/
namespace Go.Proofs.YtcgmlhlnkbjfnaaGreatDoor
set_option maxRecDepth 100000
open Go.RowKit M

theorem specVob_any (x : Int) (w : World) :
    Calls Tryz.prog 144 #[.int .u8 x] w fun e w' => e = .returned (.bool (vobB x)) ∧ w = w' := by
  go_enter Tryz.func144, Tryz.ntmps144
  go_wp2_with (first | (go_at_call 146; refine (specIsObs_any _ _).mono ?_; rintro e w1 ⟨rfl, rfl⟩) | (go_at_call 145; refine (specHas_any _ _ _).mono ?_; rintro e w1 ⟨rfl, rfl⟩))
  all_goals
    go_ret
    refine ⟨ret_bool ?_, rfl⟩
    unfold vobB
    simp_all

set_option maxHeartbeats 1600000 in
theorem specOns_any (s : ByteArray) (w : World) (hs : s.size ≤ maxLen) :
    Calls Tryz.prog 110 #[.string s] w fun e w' => e = .returned (.int .i64 (mkC nconsB vowB s)) ∧ w = w' := by
  have HM := Lib.hid hs
  unfold maxLen at hs
  by_cases hf : isFm s = true
  · have HE := Lib.hid (ons_mk s hf)
    have h8 := isFm_size hf
    go_enter Tryz.func110, Tryz.ntmps110
    go_wp2
    go_loop [3, 4] (fun n i => ∃ (j : Nat), (j ≤ s.size) ∧ i = .int .i64 j ∧ n = .int .i64 (cntP (onsP s) j)) (fun _ i => s.size - (intOf i).toNat)
    case atStart => exact ⟨0, by omega, rfl, by simp [cntP]⟩
    case round =>
      obtain ⟨j, hj, rfl, rfl⟩ := hrel
      have hcl := cntP_le (onsP s) j
      by_cases hz : j = 0
      · subst hz
        by_cases hlt : 0 < s.size
        · go_wp2_with (first | (go_at_call 35; refine (specFm_any s _ HM.out).mono ?_; rintro e w1 ⟨rfl, rfl⟩; rw [hf]) | (go_at_call 143; refine (specVow_any s _ _).mono ?_; rintro e w1 ⟨rfl, rfl⟩))
          · have hp : onsP s 0 = true := by unfold onsP; simp_all
            go_round
            case rel => exact ⟨1, by omega, by go_num, by rw [cntP_yes _ 0 hp]; go_num⟩
            case measure => simp [intOf]; omega
          · have hp : onsP s 0 = false := by unfold onsP; simp_all
            go_round
            case rel => exact ⟨1, by omega, by go_num, by rw [cntP_no _ 0 hp]⟩
            case measure => simp [intOf]; omega
        · have h0 : s.size = 0 := by omega
          rw [h0] at HE
          go_wp2
          go_ret
          exact ⟨by rw [← HE.out]; rfl, rfl⟩
      by_cases hlt : j < s.size
      · go_wp2_with (first | (go_at_call 35; refine (specFm_any s _ HM.out).mono ?_; rintro e w1 ⟨rfl, rfl⟩; rw [hf]) | (go_at_call 143; refine (specVow_any s _ _).mono ?_; rintro e w1 ⟨rfl, rfl⟩))
        all_goals
          first
          | (have hp : onsP s j = true := by (unfold onsP; simp_all)
             go_round
             case rel => exact ⟨j + 1, by omega, by go_num, by rw [cntP_yes _ j hp]; go_num⟩
             case measure => simp [intOf]; omega)
          | (have hp : onsP s j = false := by (unfold onsP; simp_all)
             go_round
             case rel => exact ⟨j + 1, by omega, by go_num, by rw [cntP_no _ j hp]⟩
             case measure => simp [intOf]; omega)
      · obtain rfl : j = s.size := by omega
        go_wp2
        go_ret
        exact ⟨by rw [HE.out]; rfl, rfl⟩
  · have hf : isFm s = false := by simpa using hf
    have HE := Lib.hid (mkC_no nconsB vowB s hf)
    go_enter Tryz.func110, Tryz.ntmps110
    go_wp2
    refine wp_loop_rounds 1 ?_
    rw [rounds_succ]
    go_wp2_with (go_at_call 35; refine (specFm_any s _ HM.out).mono ?_; rintro e w1 ⟨rfl, rfl⟩; rw [hf])
    all_goals
      go_ret
      exact ⟨by rw [HE.out]; rfl, rfl⟩

set_option maxHeartbeats 1600000 in
theorem specCod_any (s : ByteArray) (w : World) (hs : s.size ≤ maxLen) :
    Calls Tryz.prog 111 #[.string s] w fun e w' => e = .returned (.int .i64 (mkC consB nvowB s)) ∧ w = w' := by
  have HM := Lib.hid hs
  unfold maxLen at hs
  by_cases hf : isFm s = true
  · have HE := Lib.hid (cod_mk s hf)
    have h8 := isFm_size hf
    go_enter Tryz.func111, Tryz.ntmps111
    go_wp2
    go_loop [3, 4] (fun n i => ∃ (j : Nat), (j ≤ s.size) ∧ i = .int .i64 j ∧ n = .int .i64 (cntP (codP s) j)) (fun _ i => s.size - (intOf i).toNat)
    case atStart => exact ⟨0, by omega, rfl, by simp [cntP]⟩
    case round =>
      obtain ⟨j, hj, rfl, rfl⟩ := hrel
      have hcl := cntP_le (codP s) j
      by_cases hlt : j < s.size
      · go_wp2_with (first | (go_at_call 35; refine (specFm_any s _ HM.out).mono ?_; rintro e w1 ⟨rfl, rfl⟩; rw [hf]) | (go_at_call 143; refine (specVow_any s _ _).mono ?_; rintro e w1 ⟨rfl, rfl⟩))
        all_goals
          first
          | (have hp : codP s j = true := by (unfold codP; simp_all)
             go_round
             case rel => exact ⟨j + 1, by omega, by go_num, by rw [cntP_yes _ j hp]; go_num⟩
             case measure => simp [intOf]; omega)
          | (have hp : codP s j = false := by (unfold codP; simp_all)
             go_round
             case rel => exact ⟨j + 1, by omega, by go_num, by rw [cntP_no _ j hp]⟩
             case measure => simp [intOf]; omega)
      · obtain rfl : j = s.size := by omega
        go_wp2
        go_ret
        exact ⟨by rw [HE.out]; rfl, rfl⟩
  · have hf : isFm s = false := by simpa using hf
    have HE := Lib.hid (mkC_no consB nvowB s hf)
    go_enter Tryz.func111, Tryz.ntmps111
    go_wp2
    refine wp_loop_rounds 1 ?_
    rw [rounds_succ]
    go_wp2_with (go_at_call 35; refine (specFm_any s _ HM.out).mono ?_; rintro e w1 ⟨rfl, rfl⟩; rw [hf])
    all_goals
      go_ret
      exact ⟨by rw [HE.out]; rfl, rfl⟩

set_option maxHeartbeats 1600000 in
theorem specClu_any (s : ByteArray) (w : World) (hs : s.size ≤ maxLen) :
    Calls Tryz.prog 112 #[.string s] w fun e w' => e = .returned (.int .i64 (mkC consB consB s)) ∧ w = w' := by
  have HM := Lib.hid hs
  unfold maxLen at hs
  by_cases hf : isFm s = true
  · have HE := Lib.hid (clu_mk s hf)
    have h8 := isFm_size hf
    go_enter Tryz.func112, Tryz.ntmps112
    go_wp2
    go_loop [3, 4] (fun n i => ∃ (j : Nat), 1 ≤ j ∧ (j ≤ s.size ∨ j = 1) ∧ i = .int .i64 j ∧ n = .int .i64 (cntP (cluP s) j)) (fun _ i => s.size - (intOf i).toNat)
    case atStart => exact ⟨1, by omega, by omega, rfl, by rw [cntP_no (cluP s) 0 (by simp [cluP]), cntP_zero]; rfl⟩
    case round =>
      obtain ⟨j, h1j, hj, rfl, rfl⟩ := hrel
      have hcl := cntP_le (cluP s) j
      by_cases hlt : j < s.size
      · go_wp2_with (first | (go_at_call 35; refine (specFm_any s _ HM.out).mono ?_; rintro e w1 ⟨rfl, rfl⟩; rw [hf]) | (go_at_call 143; refine (specVow_any s _ _).mono ?_; rintro e w1 ⟨rfl, rfl⟩))
        all_goals
          first
          | (have hp : cluP s j = true := by (unfold cluP; simp_all)
             go_round
             case rel => exact ⟨j + 1, by omega, by omega, by go_num, by rw [cntP_yes _ j hp]; go_num⟩
             case measure => simp [intOf]; omega)
          | (have hp : cluP s j = false := by (unfold cluP; simp_all)
             go_round
             case rel => exact ⟨j + 1, by omega, by omega, by go_num, by rw [cntP_no _ j hp]⟩
             case measure => simp [intOf]; omega)
      · have HE2 : Hid (cntP (cluP s) j = mkC consB consB s) := by
          unfold Hid
          rw [← HE.out]
          by_cases hz : j = s.size
          · rw [hz]
          · have h0 : s.size = 0 := by omega
            obtain rfl : j = 1 := by omega
            rw [h0, cntP_no (cluP s) 0 (by simp [cluP])]
        have hge : ¬ (j : Int) < (s.size : Int) := by omega
        go_wp2
        go_ret
        exact ⟨by rw [HE2.out]; rfl, rfl⟩
  · have hf : isFm s = false := by simpa using hf
    have HE := Lib.hid (mkC_no consB consB s hf)
    go_enter Tryz.func112, Tryz.ntmps112
    go_wp2
    refine wp_loop_rounds 1 ?_
    rw [rounds_succ]
    go_wp2_with (go_at_call 35; refine (specFm_any s _ HM.out).mono ?_; rintro e w1 ⟨rfl, rfl⟩; rw [hf])
    all_goals
      go_ret
      exact ⟨by rw [HE.out]; rfl, rfl⟩

set_option maxHeartbeats 1600000 in
theorem specVoi_any (s : ByteArray) (w : World) (hs : s.size ≤ maxLen) :
    Calls Tryz.prog 113 #[.string s] w fun e w' => e = .returned (.int .i64 (mkC anyB vobB s)) ∧ w = w' := by
  have HM := Lib.hid hs
  unfold maxLen at hs
  by_cases hf : isFm s = true
  · have HE := Lib.hid (voi_mk s hf)
    have h8 := isFm_size hf
    go_enter Tryz.func113, Tryz.ntmps113
    go_wp2
    go_loop [3, 4] (fun n i => ∃ (j : Nat), (j ≤ s.size) ∧ i = .int .i64 j ∧ n = .int .i64 (cntP (voiP s) j)) (fun _ i => s.size - (intOf i).toNat)
    case atStart => exact ⟨0, by omega, rfl, by simp [cntP]⟩
    case round =>
      obtain ⟨j, hj, rfl, rfl⟩ := hrel
      have hcl := cntP_le (voiP s) j
      by_cases hlt : j < s.size
      · have hB := bAt_in s j hlt
        go_wp2_with (first | (go_at_call 35; refine (specFm_any s _ HM.out).mono ?_; rintro e w1 ⟨rfl, rfl⟩; rw [hf]) | (go_at_call 144; refine (specVob_any _ _).mono ?_; rintro e w1 ⟨rfl, rfl⟩))
        all_goals
          first
          | (have hp : voiP s j = true := by (unfold voiP; simp_all)
             go_round
             case rel => exact ⟨j + 1, by omega, by go_num, by rw [cntP_yes _ j hp]; go_num⟩
             case measure => simp [intOf]; omega)
          | (have hp : voiP s j = false := by (unfold voiP; simp_all)
             go_round
             case rel => exact ⟨j + 1, by omega, by go_num, by rw [cntP_no _ j hp]⟩
             case measure => simp [intOf]; omega)
      · obtain rfl : j = s.size := by omega
        go_wp2
        go_ret
        exact ⟨by rw [HE.out]; rfl, rfl⟩
  · have hf : isFm s = false := by simpa using hf
    have HE := Lib.hid (mkC_no anyB vobB s hf)
    go_enter Tryz.func113, Tryz.ntmps113
    go_wp2
    refine wp_loop_rounds 1 ?_
    rw [rounds_succ]
    go_wp2_with (go_at_call 35; refine (specFm_any s _ HM.out).mono ?_; rintro e w1 ⟨rfl, rfl⟩; rw [hf])
    all_goals
      go_ret
      exact ⟨by rw [HE.out]; rfl, rfl⟩

set_option maxHeartbeats 1600000 in
theorem specNas_any (s : ByteArray) (w : World) (hs : s.size ≤ maxLen) :
    Calls Tryz.prog 115 #[.string s] w fun e w' => e = .returned (.int .i64 (mkC nasB vlsB s)) ∧ w = w' := by
  have HM := Lib.hid hs
  unfold maxLen at hs
  by_cases hf : isFm s = true
  · have HE := Lib.hid (nas_mk s hf)
    have h8 := isFm_size hf
    go_enter Tryz.func115, Tryz.ntmps115
    go_wp2
    go_loop [3, 4] (fun n i => ∃ (j : Nat), 1 ≤ j ∧ (j ≤ s.size ∨ j = 1) ∧ i = .int .i64 j ∧ n = .int .i64 (cntP (nasP s) j)) (fun _ i => s.size - (intOf i).toNat)
    case atStart => exact ⟨1, by omega, by omega, rfl, by rw [cntP_no (nasP s) 0 (by simp [nasP]), cntP_zero]; rfl⟩
    case round =>
      obtain ⟨j, h1j, hj, rfl, rfl⟩ := hrel
      have hcl := cntP_le (nasP s) j
      by_cases hlt : j < s.size
      · have hB := bAt_in s j hlt
        have hB1 := bAt_in s (j - 1) (by omega)
        go_wp2_with (first | (go_at_call 35; refine (specFm_any s _ HM.out).mono ?_; rintro e w1 ⟨rfl, rfl⟩; rw [hf]) | (go_at_call 145; refine (specHas_any _ _ _).mono ?_; rintro e w1 ⟨rfl, rfl⟩) | (go_at_call 146; refine (specIsObs_any _ _).mono ?_; rintro e w1 ⟨rfl, rfl⟩))
        all_goals
          first
          | (have hp : nasP s j = true := by (unfold nasP; simp_all)
             go_round
             case rel => exact ⟨j + 1, by omega, by omega, by go_num, by rw [cntP_yes _ j hp]; go_num⟩
             case measure => simp [intOf]; omega)
          | (have hp : nasP s j = false := by (unfold nasP; simp_all)
             go_round
             case rel => exact ⟨j + 1, by omega, by omega, by go_num, by rw [cntP_no _ j hp]⟩
             case measure => simp [intOf]; omega)
      · have HE2 : Hid (cntP (nasP s) j = mkC nasB vlsB s) := by
          unfold Hid
          rw [← HE.out]
          by_cases hz : j = s.size
          · rw [hz]
          · have h0 : s.size = 0 := by omega
            obtain rfl : j = 1 := by omega
            rw [h0, cntP_no (nasP s) 0 (by simp [nasP])]
        have hge : ¬ (j : Int) < (s.size : Int) := by omega
        go_wp2
        go_ret
        exact ⟨by rw [HE2.out]; rfl, rfl⟩
  · have hf : isFm s = false := by simpa using hf
    have HE := Lib.hid (mkC_no nasB vlsB s hf)
    go_enter Tryz.func115, Tryz.ntmps115
    go_wp2
    refine wp_loop_rounds 1 ?_
    rw [rounds_succ]
    go_wp2_with (go_at_call 35; refine (specFm_any s _ HM.out).mono ?_; rintro e w1 ⟨rfl, rfl⟩; rw [hf])
    all_goals
      go_ret
      exact ⟨by rw [HE.out]; rfl, rfl⟩

theorem specFin_any (s : ByteArray) (w : World) (hs : s.size ≤ maxLen) :
    Calls Tryz.prog 114 #[.string s] w fun e w' => e = .returned (.int .i64 (mkC vobB edgB s)) ∧ w = w' := by
  have HM := Lib.hid hs
  unfold maxLen at hs
  by_cases hf : isFm s = true
  · have HE := Lib.hid (fin_mk s hf)
    have h8 := isFm_size hf
    by_cases hz : s.size = 0
    · have HF := Lib.hid (fin_empty s hz)
      have hne : s.toList.isEmpty = true := by
        rw [Lib.toList_data]
        rw [List.eq_nil_of_length_eq_zero (show s.data.toList.length = 0 from (Array.length_toList).trans hz)]
        rfl
      go_enter Tryz.func114, Tryz.ntmps114
      go_wp2_with (go_at_call 35; refine (specFm_any s _ HM.out).mono ?_; rintro e w1 ⟨rfl, rfl⟩; rw [hf])
      go_ret
      exact ⟨by rw [HE.out, HF.out]; rfl, rfl⟩
    · have hz2 : 0 < s.size := by omega
      have hB := bAt_in s (s.size - 1) (by omega)
      have hne : s.toList.isEmpty = false := by
        rw [Lib.toList_data]
        cases hd : s.data.toList with
        | nil => exact absurd (by have : s.data.toList.length = s.size := by simp
                                  rw [← this, hd]; rfl : s.size = 0) hz
        | cons a l => rfl
      have HV : Hid (eB s s.size = bAt s (s.size - 1)) := by
        unfold Hid
        rw [← eB_succ, show s.size - 1 + 1 = s.size by omega]
      have hw : IntKind.i64.wrap ((s.size : Int) - 1) = ((s.size - 1 : Nat) : Int) := by rw [show (s.size : Int) - 1 = ((s.size - 1 : Nat) : Int) by omega]; exact IntWalk.i64_in _ (by omega)
      go_enter Tryz.func114, Tryz.ntmps114
      go_wp2_with (first | (go_at_call 35; refine (specFm_any s _ HM.out).mono ?_; rintro e w1 ⟨rfl, rfl⟩; rw [hf]) | (go_at_call 144; refine (specVob_any _ _).mono ?_; rintro e w1 ⟨rfl, rfl⟩))
      · go_ret
        exact ⟨by rw [HE.out, HV.out, if_pos (by assumption)]; rfl, rfl⟩
      · have hn : vobB (bAt s (s.size - 1)) = false := by assumption
        go_ret
        exact ⟨by rw [HE.out, HV.out, hn]; rfl, rfl⟩
  · have hf : isFm s = false := by simpa using hf
    have HE := Lib.hid (mkC_no vobB edgB s hf)
    go_enter Tryz.func114, Tryz.ntmps114
    go_wp2_with (go_at_call 35; refine (specFm_any s _ HM.out).mono ?_; rintro e w1 ⟨rfl, rfl⟩; rw [hf])
    go_ret
    exact ⟨by rw [HE.out]; rfl, rfl⟩
end Go.Proofs.YtcgmlhlnkbjfnaaGreatDoor

/- The model's counts of links: what they answer. -/
namespace Go.Proofs.YtcgmlhlnkbjfnaaGreatDoor
set_option maxRecDepth 100000
open Go.RowKit M
set_option linter.unusedVariables false
set_option linter.unusedSimpArgs false
set_option maxRecDepth 100000

set_option maxHeartbeats 4000000 in
theorem specDeleted_any (x : DCandidate) (v : Value) (F : Addr → Prop) (w : World) (hl : x.Links.length ≤ 1048576) (hv : RowRd rLink false w v x.Links F) :
    Calls Tryz.prog 116 #[.agg #[v]] w fun e w' => e = .returned (.int .i64 (cntC delK x.Links : Nat)) ∧ Below w.heap.size w w' := by
  obtain ⟨A, cap, rfl⟩ := hv.form
  have HIS : Hid (∀ W, Below w.heap.size w W → Calls Tryz.prog 57 #[.agg #[.slice A x.Links.length cap]] W fun e w' => e = .returned (.bool (isCd x.Links)) ∧ Below W.heap.size W w') := fun W hW => specIsCd_any x _ F W hl (hv.kept hW)
  have HV := Lib.hid hv
  clear hv
  have HX : Hid (∀ k, k < x.Links.length → ∃ y, x.Links[k]? = some y) := fun k hk => ⟨_, List.getElem?_eq_getElem hk⟩
  have HC : Hid (cntC delK x.Links = if isCd x.Links then cntL delK x.Links else 0) := rfl
  generalize x.Links = l at *
  generalize isCd l = cd at *
  generalize cntC delK l = r at *
  go_enter Tryz.func116, Tryz.ntmps116
  go_wp2
  go_loopw [3, 4] (fun c i wr => ∃ (k : Nat), k ≤ l.length ∧ i = .int .i64 k ∧ c = .int .i64 (cntL delK (l.take k) : Nat) ∧ Hid (cd = false → k = 0) ∧ Below w.heap.size w wr ∧ InC wr w.heap.size #[.slice A l.length cap] 59) (fun _ i _ => l.length - (intOf i).toNat)
  case atStart => exact ⟨0, by omega, rfl, rfl, fun _ => rfl, (Below.refl _ _).alloc (Nat.le_refl _) _, heap_alloc_new _ _⟩
  case round =>
    obtain ⟨k, hk, rfl, rfl, hcd, hbe, hi1⟩ := hrel
    have b1 := hi1.cell 0 rfl
    have HBE := Lib.hid hbe
    have HI1 := Lib.hid hi1
    clear hbe hi1
    have hel := cntL_le delK l k
    by_cases hkl : k < l.length
    · obtain ⟨y, hy⟩ := HX.out k hkl
      go_wp2_with fail
      refine (HIS.out _ HBE.out).mono ?_
      rintro e w2 ⟨rfl, hb2⟩
      have HBE2 : Hid (Below w.heap.size w w2) := below_step HBE.out hb2
      have HI2 := Lib.hid (HI1.out.kept hb2)
      have b2 := HI2.out.cell 0 rfl
      clear hb2 b1
      obtain ⟨g, off, xs, Fk, rfl, _, hra, _, hca⟩ := (HV.out.kept HBE2.out).get hy
      obtain rfl := rLink_rd hra
      rw [rLink_size] at hca
      have c0 := hca 0 _ rfl
      have c1 := hca 1 _ rfl
      simp only [Nat.add_zero] at c0
      have HEY : Hid (decide ((y.Out.toNat : Int) = 0) = true → cntL delK (l.take (k + 1)) = cntL delK (l.take k) + 1) := fun h => cntL_yes hy h
      have HEN : Hid (decide ((y.Out.toNat : Int) = 0) = false → cntL delK (l.take (k + 1)) = cntL delK (l.take k)) := fun h => cntL_no hy h
      clear hca hra hy
      generalize cntL delK (l.take k) = E0 at *
      generalize (y.In.toNat : Int) = a at *
      generalize (y.Out.toNat : Int) = b at *
      cases cd
      · obtain rfl : k = 0 := hcd.out rfl
        have h0 : r = 0 := by rw [HC.out]; rfl
        have hE0 : E0 = 0 := by omega
        subst hE0
        subst h0
        go_wp2
        go_ret
        exact ⟨rfl, HBE2.out⟩
      · by_cases hb : b = 0
        · have HE := Lib.hid (HEY.out (by simp [hb]))
          have qb : (b == 0) = true := by simp [hb]
          have nb : (b != 0) = false := by simp [hb]
          go_wp2
          (try go_quiet (fail))
          (try go_wp2)
          go_roundw
          case rel => exact ⟨k + 1, by omega, by go_num, by rw [HE.out]; go_num, fun h => (by cases h), by first | exact HBE2.out | exact drewN_below HBE2.out | exact drewN_below (HBE2.out.alloc HBE2.out.size _) | exact HBE2.out.alloc HBE2.out.size _, by first | exact HI2.out | exact inC_drewN HI2.out | exact inC_drewN (HI2.out.kept ((Below.refl _ _).alloc (Nat.le_refl _) _)) | exact HI2.out.kept ((Below.refl _ _).alloc (Nat.le_refl _) _)⟩
          case measure => simp [intOf]; omega
        · have HE := Lib.hid (HEN.out (by simp [hb]))
          have qb : (b == 0) = false := by simp [hb]
          have nb : (b != 0) = true := by simp [hb]
          go_wp2
          (try go_quiet (fail))
          (try go_wp2)
          go_roundw
          case rel => exact ⟨k + 1, by omega, by go_num, by rw [HE.out], fun h => (by cases h), by first | exact HBE2.out | exact drewN_below HBE2.out | exact drewN_below (HBE2.out.alloc HBE2.out.size _) | exact HBE2.out.alloc HBE2.out.size _, by first | exact HI2.out | exact inC_drewN HI2.out | exact inC_drewN (HI2.out.kept ((Below.refl _ _).alloc (Nat.le_refl _) _)) | exact HI2.out.kept ((Below.refl _ _).alloc (Nat.le_refl _) _)⟩
          case measure => simp [intOf]; omega
    · obtain rfl : k = l.length := by omega
      rw [List.take_length] at *
      have HR : Hid (cntL delK l = r) := by
        unfold Hid
        rw [HC.out]
        cases cd
        · have h0 : l.length = 0 := hcd.out rfl
          have h1 : l = [] := List.eq_nil_of_length_eq_zero h0
          subst h1
          rfl
        · rfl
      go_wp2
      go_ret
      exact ⟨by rw [HR.out] <;> rfl, HBE.out⟩
set_option maxHeartbeats 4000000 in
theorem specInserted_any (x : DCandidate) (v : Value) (F : Addr → Prop) (w : World) (hl : x.Links.length ≤ 1048576) (hv : RowRd rLink false w v x.Links F) :
    Calls Tryz.prog 117 #[.agg #[v]] w fun e w' => e = .returned (.int .i64 (cntC insK x.Links : Nat)) ∧ Below w.heap.size w w' := by
  obtain ⟨A, cap, rfl⟩ := hv.form
  have HIS : Hid (∀ W, Below w.heap.size w W → Calls Tryz.prog 57 #[.agg #[.slice A x.Links.length cap]] W fun e w' => e = .returned (.bool (isCd x.Links)) ∧ Below W.heap.size W w') := fun W hW => specIsCd_any x _ F W hl (hv.kept hW)
  have HV := Lib.hid hv
  clear hv
  have HX : Hid (∀ k, k < x.Links.length → ∃ y, x.Links[k]? = some y) := fun k hk => ⟨_, List.getElem?_eq_getElem hk⟩
  have HC : Hid (cntC insK x.Links = if isCd x.Links then cntL insK x.Links else 0) := rfl
  generalize x.Links = l at *
  generalize isCd l = cd at *
  generalize cntC insK l = r at *
  go_enter Tryz.func117, Tryz.ntmps117
  go_wp2
  go_loopw [3, 4] (fun c i wr => ∃ (k : Nat), k ≤ l.length ∧ i = .int .i64 k ∧ c = .int .i64 (cntL insK (l.take k) : Nat) ∧ Hid (cd = false → k = 0) ∧ Below w.heap.size w wr ∧ InC wr w.heap.size #[.slice A l.length cap] 59) (fun _ i _ => l.length - (intOf i).toNat)
  case atStart => exact ⟨0, by omega, rfl, rfl, fun _ => rfl, (Below.refl _ _).alloc (Nat.le_refl _) _, heap_alloc_new _ _⟩
  case round =>
    obtain ⟨k, hk, rfl, rfl, hcd, hbe, hi1⟩ := hrel
    have b1 := hi1.cell 0 rfl
    have HBE := Lib.hid hbe
    have HI1 := Lib.hid hi1
    clear hbe hi1
    have hel := cntL_le insK l k
    by_cases hkl : k < l.length
    · obtain ⟨y, hy⟩ := HX.out k hkl
      go_wp2_with fail
      refine (HIS.out _ HBE.out).mono ?_
      rintro e w2 ⟨rfl, hb2⟩
      have HBE2 : Hid (Below w.heap.size w w2) := below_step HBE.out hb2
      have HI2 := Lib.hid (HI1.out.kept hb2)
      have b2 := HI2.out.cell 0 rfl
      clear hb2 b1
      obtain ⟨g, off, xs, Fk, rfl, _, hra, _, hca⟩ := (HV.out.kept HBE2.out).get hy
      obtain rfl := rLink_rd hra
      rw [rLink_size] at hca
      have c0 := hca 0 _ rfl
      have c1 := hca 1 _ rfl
      simp only [Nat.add_zero] at c0
      have HEY : Hid (decide ((y.In.toNat : Int) = 0) = true → cntL insK (l.take (k + 1)) = cntL insK (l.take k) + 1) := fun h => cntL_yes hy h
      have HEN : Hid (decide ((y.In.toNat : Int) = 0) = false → cntL insK (l.take (k + 1)) = cntL insK (l.take k)) := fun h => cntL_no hy h
      clear hca hra hy
      generalize cntL insK (l.take k) = E0 at *
      generalize (y.In.toNat : Int) = a at *
      generalize (y.Out.toNat : Int) = b at *
      cases cd
      · obtain rfl : k = 0 := hcd.out rfl
        have h0 : r = 0 := by rw [HC.out]; rfl
        have hE0 : E0 = 0 := by omega
        subst hE0
        subst h0
        go_wp2
        go_ret
        exact ⟨rfl, HBE2.out⟩
      · by_cases ha : a = 0
        · have HE := Lib.hid (HEY.out (by simp [ha]))
          have qa : (a == 0) = true := by simp [ha]
          have na : (a != 0) = false := by simp [ha]
          go_wp2
          (try go_quiet (fail))
          (try go_wp2)
          go_roundw
          case rel => exact ⟨k + 1, by omega, by go_num, by rw [HE.out]; go_num, fun h => (by cases h), by first | exact HBE2.out | exact drewN_below HBE2.out | exact drewN_below (HBE2.out.alloc HBE2.out.size _) | exact HBE2.out.alloc HBE2.out.size _, by first | exact HI2.out | exact inC_drewN HI2.out | exact inC_drewN (HI2.out.kept ((Below.refl _ _).alloc (Nat.le_refl _) _)) | exact HI2.out.kept ((Below.refl _ _).alloc (Nat.le_refl _) _)⟩
          case measure => simp [intOf]; omega
        · have HE := Lib.hid (HEN.out (by simp [ha]))
          have qa : (a == 0) = false := by simp [ha]
          have na : (a != 0) = true := by simp [ha]
          go_wp2
          (try go_quiet (fail))
          (try go_wp2)
          go_roundw
          case rel => exact ⟨k + 1, by omega, by go_num, by rw [HE.out], fun h => (by cases h), by first | exact HBE2.out | exact drewN_below HBE2.out | exact drewN_below (HBE2.out.alloc HBE2.out.size _) | exact HBE2.out.alloc HBE2.out.size _, by first | exact HI2.out | exact inC_drewN HI2.out | exact inC_drewN (HI2.out.kept ((Below.refl _ _).alloc (Nat.le_refl _) _)) | exact HI2.out.kept ((Below.refl _ _).alloc (Nat.le_refl _) _)⟩
          case measure => simp [intOf]; omega
    · obtain rfl : k = l.length := by omega
      rw [List.take_length] at *
      have HR : Hid (cntL insK l = r) := by
        unfold Hid
        rw [HC.out]
        cases cd
        · have h0 : l.length = 0 := hcd.out rfl
          have h1 : l = [] := List.eq_nil_of_length_eq_zero h0
          subst h1
          rfl
        · rfl
      go_wp2
      go_ret
      exact ⟨by rw [HR.out] <;> rfl, HBE.out⟩
set_option maxHeartbeats 4000000 in
theorem specVoiceChanged_any (x : DCandidate) (v : Value) (F : Addr → Prop) (w : World) (hl : x.Links.length ≤ 1048576) (hv : RowRd rLink false w v x.Links F) :
    Calls Tryz.prog 118 #[.agg #[v]] w fun e w' => e = .returned (.int .i64 (cntC vchK x.Links : Nat)) ∧ Below w.heap.size w w' := by
  obtain ⟨A, cap, rfl⟩ := hv.form
  have HIS : Hid (∀ W, Below w.heap.size w W → Calls Tryz.prog 57 #[.agg #[.slice A x.Links.length cap]] W fun e w' => e = .returned (.bool (isCd x.Links)) ∧ Below W.heap.size W w') := fun W hW => specIsCd_any x _ F W hl (hv.kept hW)
  have HV := Lib.hid hv
  clear hv
  have HX : Hid (∀ k, k < x.Links.length → ∃ y, x.Links[k]? = some y) := fun k hk => ⟨_, List.getElem?_eq_getElem hk⟩
  have HC : Hid (cntC vchK x.Links = if isCd x.Links then cntL vchK x.Links else 0) := rfl
  generalize x.Links = l at *
  generalize isCd l = cd at *
  generalize cntC vchK l = r at *
  go_enter Tryz.func118, Tryz.ntmps118
  go_wp2
  go_loopw [3, 4] (fun c i wr => ∃ (k : Nat), k ≤ l.length ∧ i = .int .i64 k ∧ c = .int .i64 (cntL vchK (l.take k) : Nat) ∧ Hid (cd = false → k = 0) ∧ Below w.heap.size w wr ∧ InC wr w.heap.size #[.slice A l.length cap] 59) (fun _ i _ => l.length - (intOf i).toNat)
  case atStart => exact ⟨0, by omega, rfl, rfl, fun _ => rfl, (Below.refl _ _).alloc (Nat.le_refl _) _, heap_alloc_new _ _⟩
  case round =>
    obtain ⟨k, hk, rfl, rfl, hcd, hbe, hi1⟩ := hrel
    have b1 := hi1.cell 0 rfl
    have HBE := Lib.hid hbe
    have HI1 := Lib.hid hi1
    clear hbe hi1
    have hel := cntL_le vchK l k
    by_cases hkl : k < l.length
    · obtain ⟨y, hy⟩ := HX.out k hkl
      go_wp2_with fail
      refine (HIS.out _ HBE.out).mono ?_
      rintro e w2 ⟨rfl, hb2⟩
      have HBE2 : Hid (Below w.heap.size w w2) := below_step HBE.out hb2
      have HI2 := Lib.hid (HI1.out.kept hb2)
      have b2 := HI2.out.cell 0 rfl
      clear hb2 b1
      obtain ⟨g, off, xs, Fk, rfl, _, hra, _, hca⟩ := (HV.out.kept HBE2.out).get hy
      obtain rfl := rLink_rd hra
      rw [rLink_size] at hca
      have c0 := hca 0 _ rfl
      have c1 := hca 1 _ rfl
      simp only [Nat.add_zero] at c0
      have HEY : Hid (((!decide ((y.Out.toNat : Int) = 0) && !decide ((y.In.toNat : Int) = 0)) && !decide ((y.In.toNat : Int) = (y.Out.toNat : Int))) = true → cntL vchK (l.take (k + 1)) = cntL vchK (l.take k) + 1) := fun h => cntL_yes hy h
      have HEN : Hid (((!decide ((y.Out.toNat : Int) = 0) && !decide ((y.In.toNat : Int) = 0)) && !decide ((y.In.toNat : Int) = (y.Out.toNat : Int))) = false → cntL vchK (l.take (k + 1)) = cntL vchK (l.take k)) := fun h => cntL_no hy h
      clear hca hra hy
      generalize cntL vchK (l.take k) = E0 at *
      generalize (y.In.toNat : Int) = a at *
      generalize (y.Out.toNat : Int) = b at *
      cases cd
      · obtain rfl : k = 0 := hcd.out rfl
        have h0 : r = 0 := by rw [HC.out]; rfl
        have hE0 : E0 = 0 := by omega
        subst hE0
        subst h0
        go_wp2
        go_ret
        exact ⟨rfl, HBE2.out⟩
      · by_cases ha : a = 0
        · have HE := Lib.hid (HEN.out (by simp [ha]))
          have qa : (a == 0) = true := by simp [ha]
          have na : (a != 0) = false := by simp [ha]
          go_wp2
          (try go_quiet (fail))
          (try go_wp2)
          go_roundw
          case rel => exact ⟨k + 1, by omega, by go_num, by rw [HE.out], fun h => (by cases h), by first | exact HBE2.out | exact drewN_below HBE2.out | exact drewN_below (HBE2.out.alloc HBE2.out.size _) | exact HBE2.out.alloc HBE2.out.size _, by first | exact HI2.out | exact inC_drewN HI2.out | exact inC_drewN (HI2.out.kept ((Below.refl _ _).alloc (Nat.le_refl _) _)) | exact HI2.out.kept ((Below.refl _ _).alloc (Nat.le_refl _) _)⟩
          case measure => simp [intOf]; omega
        · by_cases hb : b = 0
          · have HE := Lib.hid (HEN.out (by simp [ha, hb]))
            have qa : (a == 0) = false := by simp [ha]
            have qb : (b == 0) = true := by simp [hb]
            have na : (a != 0) = true := by simp [ha]
            have nb : (b != 0) = false := by simp [hb]
            go_wp2
            (try go_quiet (fail))
            (try go_wp2)
            go_roundw
            case rel => exact ⟨k + 1, by omega, by go_num, by rw [HE.out], fun h => (by cases h), by first | exact HBE2.out | exact drewN_below HBE2.out | exact drewN_below (HBE2.out.alloc HBE2.out.size _) | exact HBE2.out.alloc HBE2.out.size _, by first | exact HI2.out | exact inC_drewN HI2.out | exact inC_drewN (HI2.out.kept ((Below.refl _ _).alloc (Nat.le_refl _) _)) | exact HI2.out.kept ((Below.refl _ _).alloc (Nat.le_refl _) _)⟩
            case measure => simp [intOf]; omega
          · by_cases hab : a = b
            · have HE := Lib.hid (HEN.out (by simp [ha, hb, hab]))
              have qa : (a == 0) = false := by simp [ha]
              have qb : (b == 0) = false := by simp [hb]
              have qab : (a == b) = true := by simp [hab]
              have na : (a != 0) = true := by simp [ha]
              have nb : (b != 0) = true := by simp [hb]
              have nab : (a != b) = false := by simp [hab]
              go_wp2
              (try go_quiet (fail))
              (try go_wp2)
              go_roundw
              case rel => exact ⟨k + 1, by omega, by go_num, by rw [HE.out], fun h => (by cases h), by first | exact HBE2.out | exact drewN_below HBE2.out | exact drewN_below (HBE2.out.alloc HBE2.out.size _) | exact HBE2.out.alloc HBE2.out.size _, by first | exact HI2.out | exact inC_drewN HI2.out | exact inC_drewN (HI2.out.kept ((Below.refl _ _).alloc (Nat.le_refl _) _)) | exact HI2.out.kept ((Below.refl _ _).alloc (Nat.le_refl _) _)⟩
              case measure => simp [intOf]; omega
            · have HE := Lib.hid (HEY.out (by simp [ha, hb, hab]))
              have qa : (a == 0) = false := by simp [ha]
              have qb : (b == 0) = false := by simp [hb]
              have qab : (a == b) = false := by simp [hab]
              have na : (a != 0) = true := by simp [ha]
              have nb : (b != 0) = true := by simp [hb]
              have nab : (a != b) = true := by simp [hab]
              go_wp2
              (try go_quiet (fail))
              (try go_wp2)
              go_roundw
              case rel => exact ⟨k + 1, by omega, by go_num, by rw [HE.out]; go_num, fun h => (by cases h), by first | exact HBE2.out | exact drewN_below HBE2.out | exact drewN_below (HBE2.out.alloc HBE2.out.size _) | exact HBE2.out.alloc HBE2.out.size _, by first | exact HI2.out | exact inC_drewN HI2.out | exact inC_drewN (HI2.out.kept ((Below.refl _ _).alloc (Nat.le_refl _) _)) | exact HI2.out.kept ((Below.refl _ _).alloc (Nat.le_refl _) _)⟩
              case measure => simp [intOf]; omega
    · obtain rfl : k = l.length := by omega
      rw [List.take_length] at *
      have HR : Hid (cntL vchK l = r) := by
        unfold Hid
        rw [HC.out]
        cases cd
        · have h0 : l.length = 0 := hcd.out rfl
          have h1 : l = [] := List.eq_nil_of_length_eq_zero h0
          subst h1
          rfl
        · rfl
      go_wp2
      go_ret
      exact ⟨by rw [HR.out] <;> rfl, HBE.out⟩
end Go.Proofs.YtcgmlhlnkbjfnaaGreatDoor
