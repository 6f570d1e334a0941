/- Merged: M10 Ss Shv L2s Fm M8 Cd M9 Sv. -/
import Derived.Test.YtkaihnlknncfdaaGreatDoorQ1
import Derived.Laws.IdiomStrings
import Derived.Lib.Slices
import Derived.Test.YtkaihnlknncfdaaGreatDoorQ2
/- Names of constraints: plain mathematics: the ten names, rows of names, their text. -/
namespace Go.Proofs.YtkaihnlknncfdaaGreatDoor
set_option maxRecDepth 100000
open Go.RowKit M

def hasB (l : List ByteArray) (x : ByteArray) : Bool := l.any fun y => decide (y = x)
theorem hasB_nil (x : ByteArray) : hasB [] x = false := rfl
theorem hasB_yes {l : List ByteArray} {k : Nat} {x : ByteArray} (h : l[k]? = some x) : hasB l x = true := by
  unfold hasB; rw [List.any_eq_true]; exact ⟨x, List.mem_of_getElem? h, by simp⟩
theorem hasB_no {l : List ByteArray} {x : ByteArray} (h : ∀ (j : Nat) (y : ByteArray), l[j]? = some y → ¬ y = x) : hasB l x = false := by
  unfold hasB; rw [List.any_eq_false]
  intro y hy
  obtain ⟨j, hj, rfl⟩ := List.getElem_of_mem hy
  have := h j _ (List.getElem?_eq_getElem hj)
  simpa using this
def namesB : List ByteArray := [⟨#[111, 110, 115, 101, 116]⟩, ⟨#[110, 111, 99, 111, 100, 97]⟩, ⟨#[99, 108, 117, 115, 116, 101, 114]⟩, ⟨#[118, 111, 105, 99, 101]⟩, ⟨#[102, 105, 110, 97, 108]⟩, ⟨#[110, 97, 115, 97, 108]⟩, ⟨#[109, 97, 120]⟩, ⟨#[100, 101, 112]⟩, ⟨#[105, 100, 101, 110, 116]⟩, ⟨#[99, 111, 110, 116, 105, 103]⟩]
theorem namesB_len : namesB.length = 10 := rfl
def isMk (x : ByteArray) : Bool := hasB (namesB.take 6) x
/-- The j-th name of the row is one of the ten and none of those ahead of it. -/
def nmAt (l : List ByteArray) (j : Nat) : Bool := match l[j]? with
  | some x => hasB namesB x && !hasB (l.take j) x
  | none => true
def areC (l : List ByteArray) : Bool := (List.range l.length).all (nmAt l) && (decide (1 ≤ (l.length : Int)) && decide ((l.length : Int) ≤ 5))
theorem areC_bad {l : List ByteArray} {k : Nat} {x : ByteArray} (h : l[k]? = some x) (hb : hasB namesB x = false ∨ hasB (l.take k) x = true) : areC l = false := by
  have hk := (List.getElem?_eq_some_iff.1 h).1
  unfold areC
  have : (List.range l.length).all (nmAt l) = false := by
    rw [List.all_eq_false]
    refine ⟨k, List.mem_range.2 hk, ?_⟩
    unfold nmAt
    rw [h]
    rcases hb with hb | hb <;> simp [hb]
  rw [this]; rfl
theorem areC_good {l : List ByteArray} (h : ∀ (k : Nat) (x : ByteArray), l[k]? = some x → hasB namesB x = true ∧ hasB (l.take k) x = false) : areC l = (decide (1 ≤ (l.length : Int)) && decide ((l.length : Int) ≤ 5)) := by
  unfold areC
  have : (List.range l.length).all (nmAt l) = true := by
    rw [List.all_eq_true]
    intro k hk
    have hk := List.mem_range.1 hk
    have hx := List.getElem?_eq_getElem hk
    obtain ⟨h1, h2⟩ := h k _ hx
    unfold nmAt
    rw [hx]
    simp [h1, h2]
  rw [this, Bool.true_and]
theorem areC_len {l : List ByteArray} (h : areC l = true) : 1 ≤ l.length ∧ l.length ≤ 5 := by
  unfold areC at h
  simp only [Bool.and_eq_true, decide_eq_true_eq] at h
  omega
theorem areC_mem {l : List ByteArray} (h : areC l = true) {k : Nat} {x : ByteArray} (hx : l[k]? = some x) : hasB namesB x = true ∧ hasB (l.take k) x = false := by
  cases h1 : hasB namesB x with
  | false => rw [areC_bad hx (.inl h1)] at h; cases h
  | true =>
    cases h2 : hasB (l.take k) x with
    | true => rw [areC_bad hx (.inr h2)] at h; cases h
    | false => exact ⟨rfl, rfl⟩
/-- A name is short. -/
theorem name_size {x : ByteArray} (h : hasB namesB x = true) : x.size ≤ 7 := by
  unfold hasB at h
  rw [List.any_eq_true] at h
  obtain ⟨y, hy, he⟩ := h
  obtain rfl : y = x := by simpa using he
  simp only [namesB, List.mem_cons, List.mem_nil_iff, or_false] at hy
  rcases hy with rfl | rfl | rfl | rfl | rfl | rfl | rfl | rfl | rfl | rfl <;> decide
/-- The first k names, a comma between. -/
def joinN (l : List ByteArray) : Nat → ByteArray
  | 0 => ⟨#[]⟩
  | k + 1 => (if 0 < k then joinN l k ++ ⟨#[44]⟩ else joinN l k) ++ l.getD k ByteArray.empty
theorem joinN_size {l : List ByteArray} (h : areC l = true) : ∀ k, k ≤ l.length → (joinN l k).size ≤ 8 * k
  | 0, _ => Nat.le_refl 0
  | k + 1, hk => by
    have ih := joinN_size h k (by omega)
    have hx := List.getElem?_eq_getElem (l := l) (i := k) (by omega)
    have hs := name_size (areC_mem h hx).1
    have hg : l.getD k ByteArray.empty = l[k] := by rw [List.getD_eq_getElem?_getD, hx]; rfl
    unfold joinN
    rw [ByteArray.size_append, hg]
    split
    · rw [ByteArray.size_append, show (⟨#[44]⟩ : ByteArray).size = 1 from rfl]; omega
    · omega
def fmtN (l : List ByteArray) : ByteArray := if areC l then joinN l l.length else ⟨#[]⟩
end Go.Proofs.YtkaihnlknncfdaaGreatDoor

/- The model's IsSound: what it answers. -/
namespace Go.Proofs.YtkaihnlknncfdaaGreatDoor
set_option maxRecDepth 100000
open Go.RowKit

/-- The k-th byte of Sounds, as it is read. -/
theorem snd_read (k : Nat) (hk : k < 7) : (((⟨#[112, 116, 98, 100, 110, 97, 105]⟩ : ByteArray)[k]'hk).toNat : Int) = sndAt k := by
  have key : ∀ k : Fin 7, (((⟨#[112, 116, 98, 100, 110, 97, 105]⟩ : ByteArray)[k.val]'k.isLt).toNat : Int) = sndAt k.val := by decide
  exact key ⟨k, hk⟩
theorem specIsSound_any (x : Int) (w : World) :
    Calls Tryz.prog 113 #[.int .u8 x] w fun e w' => e = .returned (.bool (isSnd x)) ∧ w = w' := by
  go_enter Tryz.func113, Tryz.ntmps113
  go_wp2
  go_loop [3] (fun i => ∃ j : Nat, j ≤ 7 ∧ i = .int .i64 j ∧ Hid (∀ k, k < j → sndAt k ≠ x)) (fun i => 7 - (intOf i).toNat)
  case atStart => exact ⟨0, by omega, rfl, fun k hk => by omega⟩
  case round =>
    obtain ⟨j, hj, rfl, hx⟩ := hrel
    by_cases hlt : j < 7
    · go_wp2
      · rename_i hq _
        have he : sndAt j = x := by rw [← snd_read j hlt]; simpa using hq
        go_ret
        exact ⟨ret_bool (isSnd_at x j hlt he).symm, rfl⟩
      · rename_i hq
        have he : sndAt j ≠ x := by rw [← snd_read j hlt]; simpa using hq
        go_round
        case rel => exact ⟨j + 1, by omega, by go_num, fun k hk => if hk2 : k = j then hk2 ▸ he else hx.out k (by omega)⟩
        case measure => simp [intOf]; omega
    · obtain rfl : j = 7 := by omega
      go_wp2
      go_ret
      exact ⟨ret_bool (isSnd_none x hx.out).symm, rfl⟩
end Go.Proofs.YtkaihnlknncfdaaGreatDoor

/- What a list of sounds shares: plain mathematics. -/
namespace Go.Proofs.YtkaihnlknncfdaaGreatDoor
set_option maxRecDepth 100000

def sg (x : Int) (k : Nat) : Int := if hasF x k then 1 else -1
theorem sg_yes {x : Int} {k : Nat} (h : hasF x k = true) : sg x k = 1 := by unfold sg; rw [if_pos h]
theorem sg_no {x : Int} {k : Nat} (h : hasF x k = false) : sg x k = -1 := by unfold sg; rw [if_neg (by simp [h])]
def com (A B : Nat → Int) (k : Nat) : Int := if A k = B k then A k else 0
theorem com_eq {A B : Nat → Int} {k : Nat} (h : A k = B k) : com A B k = A k := by unfold com; rw [if_pos h]
theorem com_ne {A B : Nat → Int} {k : Nat} (h : A k ≠ B k) : com A B k = 0 := by unfold com; rw [if_neg h]
/-- A byte's number. -/
def nb (b : UInt8) : Int := (b.toNat : Int)
theorem nb_ge (b : UInt8) : 0 ≤ nb b := by unfold nb; omega
theorem nb_lt (b : UInt8) : nb b < 256 := by unfold nb; have := UInt8.toNat_lt b; omega
/-- What all sounds of a list share: 1 if all have the feature, -1 if none has, else 0. -/
def shv (l : List UInt8) (k : Nat) : Int := if l.all (fun b => hasF (nb b) k) then 1 else if l.all (fun b => !hasF (nb b) k) then -1 else 0
theorem shv_one (b : UInt8) : shv [b] = sg (nb b) := by
  funext k
  unfold shv sg
  cases h : hasF (nb b) k <;> simp [h]
theorem shv_step (p : List UInt8) (b : UInt8) (hp : p ≠ []) : com (shv p) (sg (nb b)) = shv (p ++ [b]) := by
  funext k
  unfold com shv sg
  simp only [List.all_append, List.all_cons, List.all_nil, Bool.and_true]
  cases h1 : p.all (fun b => hasF (nb b) k) <;> cases h2 : p.all (fun b => !hasF (nb b) k) <;> cases h3 : hasF (nb b) k <;> simp
  -- both: the list is empty
  all_goals
    exfalso
    cases p with
    | nil => exact hp rfl
    | cons c p =>
      simp only [List.all_cons, Bool.and_eq_true] at h1 h2
      have := h1.1
      rw [this] at h2
      exact absurd h2.1 (by simp)
theorem shv_self (b : UInt8) : com (shv [b]) (sg (nb b)) = shv [b] := by
  funext k
  rw [shv_one]
  exact com_eq rfl
/-- A text that has shared features. -/
def okCls (l : List UInt8) : Bool := !l.isEmpty && decide (l.length ≤ 20) && l.all (fun b => isSnd (nb b))
end Go.Proofs.YtkaihnlknncfdaaGreatDoor

/- Whether a text has sounds only: what the model's helper answers. -/
namespace Go.Proofs.YtkaihnlknncfdaaGreatDoor
set_option maxRecDepth 100000
open Go.RowKit

theorem all_take (s : ByteArray) (i : Nat) (h : i < s.size) : s.data.toList.take (i + 1) = s.data.toList.take i ++ [s[i]] := by
  rw [List.take_add_one]
  have hl : i < s.data.toList.length := by simpa using h
  rw [List.getElem?_eq_getElem hl]
  rfl
theorem of_not_true {b : Bool} (h : (!b) = true) : b = false := by simpa using h
theorem of_not_false {b : Bool} (h : (!b) = false) : b = true := by simpa using h
theorem ne_nil_of {s : ByteArray} (h : 0 < s.size) : s.data.toList ≠ [] := by
  intro e
  have h3 : s.data.toList.length = s.size := by simp
  rw [e, List.length_nil] at h3
  omega
def l2S (l : List UInt8) : Bool := l.all (fun b => isSnd (nb b)) && decide (l.length ≤ 20)
theorem l2S_not {s : ByteArray} (i : Nat) (h : i < s.size) (hn : isSnd (s[i].toNat : Int) = false) : l2S s.data.toList = false := by
  unfold l2S
  have hm : s[i] ∈ s.data.toList := by
    have hl : i < s.data.toList.length := by simpa using h
    exact List.getElem_mem (n := i) hl
  have : s.data.toList.all (fun b => isSnd (nb b)) = false := by
    rw [List.all_eq_false]
    exact ⟨s[i], hm, by show ¬ isSnd (s[i].toNat : Int) = true; simp [hn]⟩
  rw [this]
  simp
theorem l2S_all {s : ByteArray} (h : ∀ i, (hi : i < s.size) → isSnd (s[i].toNat : Int) = true) : l2S s.data.toList = decide ((s.size : Int) ≤ 20) := by
  unfold l2S
  have ha : s.data.toList.all (fun b => isSnd (nb b)) = true := by
    rw [List.all_eq_true]
    intro b hb
    obtain ⟨i, hi, rfl⟩ := List.mem_iff_getElem.1 hb
    exact h i (by simpa using hi)
  have hl : s.data.toList.length = s.size := by simp
  rw [ha, hl, Bool.true_and]
  simp
  omega
theorem specL2_any (s : ByteArray) (w : World) (hs : s.size ≤ maxLen) :
    Calls Tryz.prog 130 #[.string s] w fun e w' => e = .returned (.bool (l2S s.data.toList)) ∧ w = w' := by
  unfold maxLen at hs
  go_enter Tryz.func130, Tryz.ntmps130
  go_wp2
  go_loop [3] (fun i => ∃ (j : Nat), j ≤ s.size ∧ i = .int .i64 j ∧ Hid (∀ k, (hk : k < s.size) → k < j → isSnd (s[k].toNat : Int) = true)) (fun i => s.size - (intOf i).toNat)
  case atStart => exact ⟨0, by omega, rfl, fun k _ hk => by omega⟩
  case round =>
    obtain ⟨j, hj, rfl, hall⟩ := hrel
    by_cases hlt : j < s.size
    · go_wp2_with fail
      refine (specIsSound_any _ _).mono ?_
      rintro e w2 ⟨rfl, rfl⟩
      go_wp2
      · have hn : isSnd (s[j].toNat : Int) = false := of_not_true (by assumption)
        go_ret
        exact ⟨ret_bool (l2S_not j hlt hn).symm, rfl⟩
      · have hn : isSnd (s[j].toNat : Int) = true := of_not_false (by assumption)
        go_round
        case rel =>
          refine ⟨j + 1, by omega, by go_num, fun k hk hkj => ?_⟩
          by_cases hkj2 : k = j
          · subst hkj2; exact hn
          · exact hall.out k hk (by omega)
        case measure => simp [intOf]; omega
    · obtain rfl : j = s.size := by omega
      have HO := Lib.hid (l2S_all fun i hi => hall.out i hi hi)
      go_wp2
      go_ret
      exact ⟨ret_bool HO.out.symm, rfl⟩
end Go.Proofs.YtkaihnlknncfdaaGreatDoor

/- Forms: plain mathematics. -/
namespace Go.Proofs.YtkaihnlknncfdaaGreatDoor
set_option maxRecDepth 100000
open Go.RowKit M

/-- The i-th byte's number. -/
def bAt (s : ByteArray) (i : Nat) : Int := ((s.data.toList.getD i 0).toNat : Int)
theorem bAt_in (s : ByteArray) (i : Nat) (h : i < s.size) : (s[i].toNat : Int) = bAt s i := by
  unfold bAt
  have hl : i < s.data.toList.length := by simpa using h
  rw [List.getD_eq_getElem?_getD, List.getElem?_eq_getElem hl]
  rfl
def isFm (s : ByteArray) : Bool := l2S s.data.toList && decide ((s.size : Int) ≤ 8)
theorem isFm_size {s : ByteArray} (h : isFm s = true) : s.size ≤ 8 := by
  unfold isFm at h; simp at h; omega
/-- Whether there is a vowel at i. -/
def vowAt (s : ByteArray) (i : Int) : Bool := decide (0 ≤ i) && (decide (i < (s.size : Int)) && hasF (bAt s i.toNat) 0)
theorem vowAt_in (s : ByteArray) (i : Nat) (h : i < s.size) : vowAt s i = hasF (bAt s i) 0 := by
  unfold vowAt
  have h1 : decide ((0 : Int) ≤ (i : Int)) = true := by simp
  have h2 : decide ((i : Int) < (s.size : Int)) = true := by simp; omega
  rw [h1, h2, Bool.true_and, Bool.true_and, Int.toNat_natCast]
/-- The vowels among the first j bytes. -/
def cntV (s : ByteArray) (j : Nat) : Nat := ((List.range j).filter fun i => hasF (bAt s i) 0).length
theorem cntV_le (s : ByteArray) (j : Nat) : cntV s j ≤ j := Nat.le_trans (List.length_filter_le _ _) (by simp)
theorem cntV_yes (s : ByteArray) (j : Nat) (h : hasF (bAt s j) 0 = true) : cntV s (j + 1) = cntV s j + 1 := by
  unfold cntV; rw [List.range_succ, List.filter_append]; simp [h]
theorem cntV_no (s : ByteArray) (j : Nat) (h : hasF (bAt s j) 0 = false) : cntV s (j + 1) = cntV s j := by
  unfold cntV; rw [List.range_succ, List.filter_append]; simp [h]
/-- V for each vowel and C for each other byte, of the first j. -/
def skelL (s : ByteArray) (j : Nat) : List UInt8 := (List.range j).map fun i => if hasF (bAt s i) 0 then 86 else 67
theorem skelL_len (s : ByteArray) (j : Nat) : (skelL s j).length = j := by simp [skelL]
theorem skelL_yes (s : ByteArray) (j : Nat) (h : hasF (bAt s j) 0 = true) : skelL s (j + 1) = skelL s j ++ [86] := by
  unfold skelL; rw [List.range_succ, List.map_append]; simp [h]
theorem skelL_no (s : ByteArray) (j : Nat) (h : hasF (bAt s j) 0 = false) : skelL s (j + 1) = skelL s j ++ [67] := by
  unfold skelL; rw [List.range_succ, List.map_append]; simp [h]
/-- The first j bytes, backwards. -/
def revL (s : ByteArray) (j : Nat) : List UInt8 := (s.data.toList.take j).reverse
theorem revL_step (s : ByteArray) (j : Nat) (h : j < s.size) : revL s (j + 1) = s[j] :: revL s j := by
  unfold revL; rw [all_take s j h, List.reverse_append]; rfl
theorem revL_len (s : ByteArray) (j : Nat) (h : j ≤ s.size) : (revL s j).length = j := by
  unfold revL; rw [List.length_reverse, List.length_take]; simp; omega
theorem revL_all (s : ByteArray) : revL s s.size = s.data.toList.reverse := by
  unfold revL; rw [List.take_of_length_le (by simp)]
theorem extract_one (s : ByteArray) (i : Nat) (h : i < s.size) : s.extract i (i + 1) = ⟨#[s[i]]⟩ := by
  apply ByteArray.ext
  rw [ByteArray.data_extract]
  apply Array.ext
  · simp; have : i < s.data.size := h; omega
  · intro k hk _
    simp at hk
    have : k = 0 := by omega
    subst this
    simp
    rfl
theorem cat_first (a : UInt8) (l : List UInt8) : (⟨#[a]⟩ : ByteArray) ++ ⟨l.toArray⟩ = ⟨(a :: l).toArray⟩ := by
  apply ByteArray.ext
  simp
/-- The forms of n sounds. -/
def sndB (j : Nat) : ByteArray := ⟨#[byt (sndAt j)]⟩
def ofTo (o : List ByteArray) (k j : Nat) : List ByteArray := (o.take k).flatMap (fun x => (List.range 7).map fun i => x ++ sndB i) ++ (List.range j).map fun i => (o.getD k ByteArray.empty) ++ sndB i
theorem ofTo_step (o : List ByteArray) (k j : Nat) : ofTo o k (j + 1) = ofTo o k j ++ [(o.getD k ByteArray.empty) ++ sndB j] := by
  unfold ofTo; rw [show List.range (j + 1) = List.range j ++ [j] from List.range_succ, List.map_append, List.append_assoc]; rfl
theorem ofTo_next (o : List ByteArray) (k : Nat) (h : k < o.length) : ofTo o k 7 = ofTo o (k + 1) 0 := by
  unfold ofTo
  rw [List.take_add_one, List.getElem?_eq_getElem h, List.flatMap_append, List.getD_eq_getElem?_getD, List.getElem?_eq_getElem h]
  simp
def ofL : Nat → List ByteArray
  | 0 => [⟨#[]⟩]
  | n + 1 => (ofL n).flatMap fun x => (List.range 7).map fun i => x ++ sndB i
theorem ofTo_all (o : List ByteArray) : ofTo o o.length 0 = o.flatMap fun x => (List.range 7).map fun i => x ++ sndB i := by
  unfold ofTo; rw [List.take_length]; simp
def formsL (n : Int) : List ByteArray := if 0 ≤ n ∧ n ≤ 3 then ofL n.toNat else []
end Go.Proofs.YtkaihnlknncfdaaGreatDoor

/- Marks of forms: plain mathematics: neighbours in a form with its edges, counted. -/
namespace Go.Proofs.YtkaihnlknncfdaaGreatDoor
set_option maxRecDepth 100000
open Go.RowKit M

/-- How many below j meet p. -/
def cntP (p : Nat → Bool) (j : Nat) : Nat := ((List.range j).filter p).length
theorem cntP_le (p : Nat → Bool) (j : Nat) : cntP p j ≤ j := Nat.le_trans (List.length_filter_le _ _) (by simp)
theorem cntP_zero (p : Nat → Bool) : cntP p 0 = 0 := rfl
theorem cntP_yes (p : Nat → Bool) (j : Nat) (h : p j = true) : cntP p (j + 1) = cntP p j + 1 := by
  unfold cntP; rw [List.range_succ, List.filter_append]; simp [h]
theorem cntP_no (p : Nat → Bool) (j : Nat) (h : p j = false) : cntP p (j + 1) = cntP p j := by
  unfold cntP; rw [List.range_succ, List.filter_append]; simp [h]
theorem cntP_succ (p : Nat → Bool) (j : Nat) : cntP p (j + 1) = cntP p j + (if p j = true then 1 else 0) := by
  cases h : p j with
  | true => rw [cntP_yes p j h]; simp
  | false => rw [cntP_no p j h]; simp
theorem cntP_congr {p q : Nat → Bool} : ∀ {j : Nat}, (∀ k, k < j → p k = q k) → cntP p j = cntP q j
  | 0, _ => rfl
  | j + 1, h => by
    rw [cntP_succ, cntP_succ, cntP_congr fun k hk => h k (by omega), h j (by omega)]
theorem cntP_shift (p : Nat → Bool) : ∀ n, cntP p (n + 1) = (if p 0 = true then 1 else 0) + cntP (fun k => p (k + 1)) n
  | 0 => by rw [cntP_succ, cntP_zero, cntP_zero]; omega
  | n + 1 => by rw [cntP_succ, cntP_shift p n, cntP_succ (fun k => p (k + 1)) n]; omega
theorem cntP_none {p : Nat → Bool} {j : Nat} (h : ∀ k, k < j → p k = false) : cntP p j = 0 := by
  induction j with
  | zero => rfl
  | succ j ih => rw [cntP_no p j (h j (by omega)), ih fun k hk => h k (by omega)]
/-- The k-th byte with the edges of the form among them. -/
def eB (s : ByteArray) : Nat → Int
  | 0 => 0
  | k + 1 => bAt s k
theorem eB_zero (s : ByteArray) : eB s 0 = 0 := rfl
theorem eB_succ (s : ByteArray) (k : Nat) : eB s (k + 1) = bAt s k := rfl
theorem bAt_out (s : ByteArray) (k : Nat) (h : s.size ≤ k) : bAt s k = 0 := by
  unfold bAt
  rw [List.getD_eq_getElem?_getD, List.getElem?_eq_none (by simpa using h)]
  rfl
theorem bAt_range (s : ByteArray) (k : Nat) : 0 ≤ bAt s k ∧ bAt s k < 256 := by
  unfold bAt
  generalize s.data.toList.getD k 0 = b
  exact ⟨by omega, by have := b.toNat_lt; omega⟩
theorem eB_range (s : ByteArray) (k : Nat) : 0 ≤ eB s k ∧ eB s k < 256 := by
  cases k with
  | zero => rw [eB_zero]; exact ⟨by omega, by omega⟩
  | succ k => exact bAt_range s k
def consB (x : Int) : Bool := isSnd x && !hasF x 0
def vowB (x : Int) : Bool := hasF x 0
def nasB (x : Int) : Bool := hasF x 2
def vobB (x : Int) : Bool := isObs x && hasF x 1
def vlsB (x : Int) : Bool := isObs x && !hasF x 1
def edgB (x : Int) : Bool := x == 0
def anyB (_ : Int) : Bool := true
def nconsB (x : Int) : Bool := !consB x
def nvowB (x : Int) : Bool := !vowB x
/-- The k-th neighbours meet both. -/
def mkAt (P Q : Int → Bool) (s : ByteArray) (k : Nat) : Bool := P (eB s k) && Q (eB s (k + 1))
/-- The marks of a form. -/
def mkC (P Q : Int → Bool) (s : ByteArray) : Nat := if isFm s = true then cntP (mkAt P Q s) (s.size + 1) else 0
theorem mkC_no (P Q : Int → Bool) (s : ByteArray) (h : isFm s = false) : mkC P Q s = 0 := by unfold mkC; rw [h]; rfl
theorem mkC_in (P Q : Int → Bool) (s : ByteArray) (h : isFm s = true) : mkC P Q s = cntP (mkAt P Q s) (s.size + 1) := by unfold mkC; rw [h]; rfl
theorem mkC_le (P Q : Int → Bool) (s : ByteArray) : mkC P Q s ≤ 9 := by
  unfold mkC
  split
  · next h => exact Nat.le_trans (cntP_le _ _) (by have := isFm_size h; omega)
  · omega
theorem isFm_snd {s : ByteArray} (h : isFm s = true) (k : Nat) (hk : k < s.size) : isSnd (bAt s k) = true := by
  cases hn : isSnd (bAt s k) with
  | true => rfl
  | false =>
    rw [← bAt_in s k hk] at hn
    unfold isFm at h
    rw [l2S_not k hk hn] at h
    simp at h
theorem snd_range {x : Int} (h : isSnd x = true) : 0 ≤ x ∧ x < 256 := by
  unfold isSnd at h
  simp at h
  omega
theorem cons_snd {x : Int} (h : isSnd x = true) : consB x = !vowB x := by unfold consB vowB; rw [h]; simp
theorem cons_zero : consB 0 = false := by decide
theorem vow_zero : vowB 0 = false := by decide
theorem nas_zero : nasB 0 = false := by decide
theorem vob_zero : vobB 0 = false := by decide
theorem vls_zero : vlsB 0 = false := by decide
theorem edge_snd {x : Int} (h : isSnd x = true) : edgB x = false := by
  unfold isSnd at h; unfold edgB
  simp at h ⊢; omega
/-- The spec's own counting, one sound at a time, is that of the neighbours. -/
def onsP (s : ByteArray) (k : Nat) : Bool := vowAt s (k : Int) && (decide ((k : Int) = 0) || vowAt s ((k : Int) - 1))
def codP (s : ByteArray) (k : Nat) : Bool := !vowAt s (k : Int) && !vowAt s ((k : Int) + 1)
def cluP (s : ByteArray) (k : Nat) : Bool := decide (1 ≤ k) && (!vowAt s ((k : Int) - 1) && !vowAt s (k : Int))
def voiP (s : ByteArray) (k : Nat) : Bool := vobB (bAt s k)
def nasP (s : ByteArray) (k : Nat) : Bool := decide (1 ≤ k) && (hasF (bAt s (k - 1)) 2 && (isObs (bAt s k) && !hasF (bAt s k) 1))
theorem vowAt_vow (s : ByteArray) (k : Nat) : vowAt s (k : Int) = vowB (bAt s k) := by
  by_cases h : k < s.size
  · exact vowAt_in s k h
  · rw [bAt_out s k (by omega), vow_zero]
    unfold vowAt
    have : decide ((k : Int) < (s.size : Int)) = false := by simp; omega
    rw [this]; simp
theorem edge_last (P Q : Int → Bool) (s : ByteArray) (hQ : Q 0 = false) : cntP (mkAt P Q s) (s.size + 1) = cntP (mkAt P Q s) s.size := by
  refine cntP_no _ _ ?_
  unfold mkAt
  rw [eB_succ, bAt_out s s.size (Nat.le_refl _), hQ, Bool.and_false]
theorem ons_mk (s : ByteArray) (h : isFm s = true) : cntP (onsP s) s.size = mkC nconsB vowB s := by
  rw [mkC_in _ _ _ h, edge_last _ _ _ vow_zero]
  refine cntP_congr fun k hk => ?_
  unfold onsP mkAt nconsB
  rw [vowAt_vow, eB_succ, Bool.and_comm]
  cases k with
  | zero => simp [eB_zero, cons_zero]
  | succ k =>
    rw [show ((k + 1 : Nat) : Int) - 1 = (k : Int) by omega, vowAt_vow, eB_succ, cons_snd (isFm_snd h k (by omega)), Bool.not_not]
    have : decide (((k + 1 : Nat) : Int) = 0) = false := by simp; omega
    rw [this, Bool.false_or]
theorem cod_mk (s : ByteArray) (h : isFm s = true) : cntP (codP s) s.size = mkC consB nvowB s := by
  rw [mkC_in _ _ _ h, cntP_shift]
  have h0 : mkAt consB nvowB s 0 = false := by unfold mkAt; rw [eB_zero, cons_zero, Bool.false_and]
  rw [h0]
  simp only [Bool.false_eq_true, if_false, Nat.zero_add]
  refine cntP_congr fun k hk => ?_
  unfold codP mkAt nvowB
  rw [vowAt_vow, show (k : Int) + 1 = ((k + 1 : Nat) : Int) by omega, vowAt_vow, eB_succ, eB_succ, cons_snd (isFm_snd h k hk)]
theorem clu_mk (s : ByteArray) (h : isFm s = true) : cntP (cluP s) s.size = mkC consB consB s := by
  rw [mkC_in _ _ _ h, edge_last _ _ _ cons_zero]
  refine cntP_congr fun k hk => ?_
  unfold cluP mkAt
  cases k with
  | zero => simp [eB_zero, cons_zero]
  | succ k =>
    rw [show ((k + 1 : Nat) : Int) - 1 = (k : Int) by omega, vowAt_vow, vowAt_vow, eB_succ, eB_succ, cons_snd (isFm_snd h k (by omega)), cons_snd (isFm_snd h (k + 1) hk)]
    simp
theorem voi_mk (s : ByteArray) (h : isFm s = true) : cntP (voiP s) s.size = mkC anyB vobB s := by
  rw [mkC_in _ _ _ h, edge_last _ _ _ vob_zero]
  refine cntP_congr fun k hk => ?_
  unfold voiP mkAt anyB
  rw [eB_succ, Bool.true_and]
theorem nas_mk (s : ByteArray) (h : isFm s = true) : cntP (nasP s) s.size = mkC nasB vlsB s := by
  rw [mkC_in _ _ _ h, edge_last _ _ _ vls_zero]
  refine cntP_congr fun k hk => ?_
  unfold nasP mkAt
  cases k with
  | zero => simp [eB_zero, nas_zero]
  | succ k =>
    rw [eB_succ, eB_succ, Nat.add_sub_cancel]
    simp [nasB, vlsB]
theorem fin_mk (s : ByteArray) (h : isFm s = true) : mkC vobB edgB s = if vobB (eB s s.size) = true then 1 else 0 := by
  rw [mkC_in _ _ _ h, cntP_succ, cntP_none]
  · unfold mkAt
    rw [eB_succ, bAt_out s s.size (Nat.le_refl _)]
    have : edgB 0 = true := by decide
    rw [this, Bool.and_true, Nat.zero_add]
  · intro k hk
    unfold mkAt
    rw [eB_succ, edge_snd (isFm_snd h k hk), Bool.and_false]
theorem fin_empty (s : ByteArray) (h : s.size = 0) : vobB (eB s s.size) = false := by rw [h, eB_zero, vob_zero]
/-- A form without marks of five kinds. -/
def perf (s : ByteArray) : Bool := isFm s && ((mkC nconsB vowB s : Int) + (mkC consB nvowB s : Int) + (mkC consB consB s : Int) + (mkC anyB vobB s : Int) + (mkC nasB vlsB s : Int) == 0)
end Go.Proofs.YtkaihnlknncfdaaGreatDoor

/- Candidates: plain mathematics: valid links, both sides, edits, the text, and how a text is read back. -/
namespace Go.Proofs.YtkaihnlknncfdaaGreatDoor
set_option maxRecDepth 100000
open Go.RowKit M
set_option linter.unusedVariables false
set_option linter.unusedSimpArgs false

theorem u8_zero (b : UInt8) : ((b.toNat : Int) = 0) ↔ b = 0 := by
  constructor
  · intro h; apply UInt8.toNat_inj.1; simp; omega
  · rintro rfl; rfl
theorem u8_eq (a b : UInt8) : ((a.toNat : Int) = (b.toNat : Int)) ↔ a = b := by
  constructor
  · intro h; apply UInt8.toNat_inj.1; omega
  · rintro rfl; rfl
theorem byt_u8 (b : UInt8) : byt (b.toNat : Int) = b := by
  apply UInt8.toNat_inj.1
  have := b.toNat_lt
  have := byt_toNat (b.toNat : Int) (by omega) (by omega)
  omega
theorem u8_in (b : UInt8) : 0 ≤ (b.toNat : Int) ∧ (b.toNat : Int) < 256 := ⟨by omega, by have := b.toNat_lt; omega⟩
/-- Whether a link with these sides is one that a candidate may have. -/
def okI (a b : Int) : Bool := if a = 0 then isSnd b else if b = 0 ∨ b = a then isSnd a else isObs a && decide (b = swapV a)
/-- The same as the model asks it. -/
def okM (a b : Int) : Bool := !((!decide (a = 0) && !isSnd a) || (!decide (b = 0) && !isSnd b) || (decide (a = 0) && decide (b = 0))) && !(!decide (a = 0) && !decide (b = 0) && !decide (a = b) && !(isObs a && decide (swapV a = b)))
theorem isSnd_zero : isSnd 0 = false := by decide
theorem isObs_cases (a : Int) : isObs a = true → a = 112 ∨ a = 116 ∨ a = 98 ∨ a = 100 := by
  unfold isObs; simp; omega
theorem okM_eq (a b : Int) : okM a b = okI a b := by
  unfold okM okI
  by_cases ha : a = 0
  · subst ha
    by_cases hb : b = 0
    · subst hb; simp [isSnd_zero]
    · simp [hb]
  · by_cases hb : b = 0
    · subst hb; simp [ha, isSnd_zero]
    · by_cases hab : b = a
      · subst hab; simp [ha]
      · have hab' : ¬ a = b := fun h => hab h.symm
        cases ho : isObs a with
        | false => simp [ha, hb, hab, hab']
        | true =>
          by_cases hs : swapV a = b
          · subst hs
            rcases isObs_cases a ho with rfl | rfl | rfl | rfl <;> decide
          · have hs' : ¬ b = swapV a := fun h => hs h.symm
            simp [ha, hb, hab, hab', hs, hs']
def okL (x : DLink) : Bool := okI (x.In.toNat : Int) (x.Out.toNat : Int)
/-- The sounds In, the sounds Out. -/
def inL (l : List DLink) : List UInt8 := (l.map (·.In)).filter (fun b => !decide (b = 0))
def outL (l : List DLink) : List UInt8 := (l.map (·.Out)).filter (fun b => !decide (b = 0))
def edits (l : List DLink) : Nat := (l.filter fun x => !decide (x.In = x.Out)).length
def isCd (l : List DLink) : Bool := l.all okL && (decide ((l.length : Int) ≤ 16) && (isFm ⟨(inL l).toArray⟩ && isFm ⟨(outL l).toArray⟩))
theorem take_next {α : Type} {l : List α} {k : Nat} {x : α} (h : l[k]? = some x) : l.take (k + 1) = l.take k ++ [x] := by
  rw [List.take_add_one, h]; rfl
theorem inL_yes {l : List DLink} {k : Nat} {x : DLink} (h : l[k]? = some x) (hx : ¬ (x.In.toNat : Int) = 0) : inL (l.take (k + 1)) = inL (l.take k) ++ [byt (x.In.toNat : Int)] := by
  have h0 : ¬ x.In = 0 := fun e => hx ((u8_zero _).2 e)
  rw [byt_u8, take_next h]; unfold inL
  simp [h0]
theorem inL_no {l : List DLink} {k : Nat} {x : DLink} (h : l[k]? = some x) (hx : (x.In.toNat : Int) = 0) : inL (l.take (k + 1)) = inL (l.take k) := by
  have h0 : x.In = 0 := (u8_zero _).1 hx
  rw [take_next h]; unfold inL
  simp [h0]
theorem outL_yes {l : List DLink} {k : Nat} {x : DLink} (h : l[k]? = some x) (hx : ¬ (x.Out.toNat : Int) = 0) : outL (l.take (k + 1)) = outL (l.take k) ++ [byt (x.Out.toNat : Int)] := by
  have h0 : ¬ x.Out = 0 := fun e => hx ((u8_zero _).2 e)
  rw [byt_u8, take_next h]; unfold outL
  simp [h0]
theorem outL_no {l : List DLink} {k : Nat} {x : DLink} (h : l[k]? = some x) (hx : (x.Out.toNat : Int) = 0) : outL (l.take (k + 1)) = outL (l.take k) := by
  have h0 : x.Out = 0 := (u8_zero _).1 hx
  rw [take_next h]; unfold outL
  simp [h0]
theorem inL_len (l : List DLink) (k : Nat) : (inL (l.take k)).length ≤ k := by
  unfold inL
  refine Nat.le_trans (List.length_filter_le _ _) ?_
  simp; omega
theorem outL_len (l : List DLink) (k : Nat) : (outL (l.take k)).length ≤ k := by
  unfold outL
  refine Nat.le_trans (List.length_filter_le _ _) ?_
  simp; omega
theorem inL_len_all (l : List DLink) : (inL l).length ≤ l.length := by
  have := inL_len l l.length; rwa [List.take_length] at this
theorem outL_len_all (l : List DLink) : (outL l).length ≤ l.length := by
  have := outL_len l l.length; rwa [List.take_length] at this
theorem edits_yes {l : List DLink} {k : Nat} {x : DLink} (h : l[k]? = some x) (hx : ¬ (x.In.toNat : Int) = (x.Out.toNat : Int)) : edits (l.take (k + 1)) = edits (l.take k) + 1 := by
  have h0 : ¬ x.In = x.Out := fun e => hx ((u8_eq _ _).2 e)
  rw [take_next h]; unfold edits
  rw [List.filter_append]
  simp [h0]
theorem edits_no {l : List DLink} {k : Nat} {x : DLink} (h : l[k]? = some x) (hx : (x.In.toNat : Int) = (x.Out.toNat : Int)) : edits (l.take (k + 1)) = edits (l.take k) := by
  have h0 : x.In = x.Out := (u8_eq _ _).1 hx
  rw [take_next h]; unfold edits
  rw [List.filter_append]
  simp [h0]
theorem edits_len (l : List DLink) (k : Nat) : edits (l.take k) ≤ k := by
  unfold edits
  refine Nat.le_trans (List.length_filter_le _ _) ?_
  simp; omega
theorem isCd_not {l : List DLink} {k : Nat} {x : DLink} (h : l[k]? = some x) (hx : okI (x.In.toNat : Int) (x.Out.toNat : Int) = false) : isCd l = false := by
  unfold isCd
  have : l.all okL = false := by
    rw [List.all_eq_false]
    exact ⟨x, List.mem_of_getElem? h, by unfold okL; rw [hx]; simp⟩
  rw [this, Bool.false_and]
theorem isCd_long {l : List DLink} (h : 16 < l.length) : isCd l = false := by
  unfold isCd
  have : decide ((l.length : Int) ≤ 16) = false := by simp; omega
  rw [this, Bool.false_and, Bool.and_false]
theorem all_ok {l : List DLink} (h : ∀ k x, l[k]? = some x → k < l.length → okI (x.In.toNat : Int) (x.Out.toNat : Int) = true) : l.all okL = true := by
  rw [List.all_eq_true]
  intro x hx
  obtain ⟨k, hk, rfl⟩ := List.getElem_of_mem hx
  exact h k _ (List.getElem?_eq_getElem hk) hk
theorem isCd_len {l : List DLink} (h : isCd l = true) : l.length ≤ 16 := by
  unfold isCd at h; simp at h; omega
theorem isCd_ok {l : List DLink} (h : isCd l = true) {x : DLink} (hx : x ∈ l) : okL x = true := by
  unfold isCd at h
  rw [Bool.and_eq_true] at h
  exact List.all_eq_true.1 h.1 x hx
theorem isCd_nil : isCd [] = true := by decide
/-- The text of a link, of a candidate. -/
def ftK (x : DLink) : List UInt8 := if x.In = x.Out then [x.In] else if x.In = 0 then [43, x.Out] else if x.Out = 0 then [45, x.In] else [42, x.In]
def ftC (l : List DLink) : List UInt8 := l.flatMap ftK
def noneB : List UInt8 := [110, 111, 110, 101]
def fmtC (l : List DLink) : List UInt8 := if isCd l then (if l = [] then noneB else ftC l) else []
theorem ftK_pos (x : DLink) : ftK x ≠ [] := by
  unfold ftK; split <;> (try split) <;> (try split) <;> simp
theorem ftK_len (x : DLink) : (ftK x).length ≤ 2 := by
  unfold ftK; split <;> (try split) <;> (try split) <;> simp
theorem ftC_step {l : List DLink} {k : Nat} {x : DLink} (h : l[k]? = some x) : ftC (l.take (k + 1)) = ftC (l.take k) ++ ftK x := by
  rw [take_next h]; unfold ftC
  rw [List.flatMap_append]; simp
theorem ftC_len (l : List DLink) : (ftC l).length ≤ 2 * l.length := by
  induction l with
  | nil => simp [ftC]
  | cons x l ih =>
    have h1 := ftK_len x
    unfold ftC at *
    rw [List.flatMap_cons, List.length_append, List.length_cons]
    omega
theorem ftC_len_take (l : List DLink) (k : Nat) : (ftC (l.take k)).length ≤ 2 * k := by
  have := ftC_len (l.take k)
  rw [List.length_take] at this
  omega
theorem ftC_nil {l : List DLink} : ftC l = [] ↔ l = [] := by
  constructor
  · intro h
    cases l with
    | nil => rfl
    | cons x l =>
      unfold ftC at h
      rw [List.flatMap_cons, List.append_eq_nil_iff] at h
      exact absurd h.1 (ftK_pos x)
  · rintro rfl; rfl
theorem ft_same {x : DLink} (h : (x.In.toNat : Int) = (x.Out.toNat : Int)) : ftK x = [byt (x.In.toNat : Int)] := by
  rw [byt_u8]; unfold ftK; rw [if_pos ((u8_eq _ _).1 h)]
theorem ft_put {x : DLink} (h : ¬ (x.In.toNat : Int) = (x.Out.toNat : Int)) (h0 : (x.In.toNat : Int) = 0) : ftK x = [43, byt (x.Out.toNat : Int)] := by
  rw [byt_u8]; unfold ftK; rw [if_neg (fun e => h ((u8_eq _ _).2 e)), if_pos ((u8_zero _).1 h0)]
theorem ft_away {x : DLink} (h : ¬ (x.In.toNat : Int) = 0) (h0 : (x.Out.toNat : Int) = 0) : ftK x = [45, byt (x.In.toNat : Int)] := by
  rw [byt_u8]; unfold ftK; rw [if_neg (fun e => h (by rw [e]; exact h0)), if_neg (fun e => h ((u8_zero _).2 e)), if_pos ((u8_zero _).1 h0)]
theorem ft_voice {x : DLink} (h : ¬ (x.In.toNat : Int) = (x.Out.toNat : Int)) (h1 : ¬ (x.In.toNat : Int) = 0) (h2 : ¬ (x.Out.toNat : Int) = 0) : ftK x = [42, byt (x.In.toNat : Int)] := by
  rw [byt_u8]; unfold ftK; rw [if_neg (fun e => h ((u8_eq _ _).2 e)), if_neg (fun e => h1 ((u8_zero _).2 e)), if_neg (fun e => h2 ((u8_zero _).2 e))]
theorem ok_put {x : DLink} (h : okL x = true) (h0 : (x.In.toNat : Int) = 0) : ¬ (x.In.toNat : Int) = (x.Out.toNat : Int) := by
  intro e
  unfold okL okI at h
  rw [if_pos h0, ← e, h0] at h
  exact absurd h (by decide)
/-- The link that a sign makes of a sound. -/
def edL (b k : UInt8) : DLink := if k = 43 then ⟨0, b⟩ else if k = 45 then ⟨b, 0⟩ else if k = 42 then ⟨b, byt (swapV (b.toNat : Int))⟩ else ⟨b, b⟩
/-- Reading as the program does: a sign, and what is read so far. -/
def rdK (st : UInt8 × List DLink) (b : UInt8) : UInt8 × List DLink := if isSnd (b.toNat : Int) then (0, st.2 ++ [edL b st.1]) else (b, st.2)
def rdT (s : List UInt8) : UInt8 × List DLink := s.foldl rdK (0, [])
theorem ftK_rd {x : DLink} (h : okL x = true) (acc : List DLink) : (ftK x).foldl rdK (0, acc) = (0, acc ++ [x]) := by
  obtain ⟨a, b⟩ := x
  unfold okL okI at h
  unfold ftK
  simp only at h ⊢
  by_cases hab : a = b
  · subst hab
    rw [if_pos rfl]
    have hs : isSnd (a.toNat : Int) = true := by
      by_cases h0 : (a.toNat : Int) = 0
      · rwa [if_pos h0] at h
      · rwa [if_neg h0, if_pos (Or.inr rfl)] at h
    simp [rdK, hs, edL]
  · rw [if_neg hab]
    by_cases h0 : a = 0
    · subst h0
      rw [if_pos rfl]
      rw [if_pos (by rfl)] at h
      have e1 : isSnd ((43 : UInt8).toNat : Int) = false := by decide
      simp only [List.foldl_cons, List.foldl_nil, rdK, e1, h]
      simp [edL]
    · have h0' : ¬ (a.toNat : Int) = 0 := fun e => h0 ((u8_zero _).1 e)
      rw [if_neg h0, if_neg h0'] at *
      by_cases hb : b = 0
      · subst hb
        have hz : (((0 : UInt8).toNat : Nat) : Int) = 0 := rfl
        rw [if_pos rfl]
        rw [if_pos (Or.inl hz)] at h
        have e1 : isSnd ((45 : UInt8).toNat : Int) = false := by decide
        simp only [List.foldl_cons, List.foldl_nil, rdK, e1, h]
        simp [edL]
      · have hb' : ¬ (b.toNat : Int) = 0 := fun e => hb ((u8_zero _).1 e)
        have hab' : ¬ (b.toNat : Int) = (a.toNat : Int) := fun e => hab ((u8_eq _ _).1 e).symm
        rw [if_neg hb]
        rw [if_neg (by rintro (e | e); exact hb' e; exact hab' e), Bool.and_eq_true] at h
        have hsw : (b.toNat : Int) = swapV (a.toNat : Int) := by simpa using h.2
        have hs : isSnd (a.toNat : Int) = true := by
          rcases isObs_cases _ h.1 with e | e | e | e <;> rw [e] <;> decide
        have e1 : isSnd ((42 : UInt8).toNat : Int) = false := by decide
        simp only [List.foldl_cons, List.foldl_nil, rdK, e1, hs]
        simp [edL, ← hsw, byt_u8]
theorem ftC_rd {l : List DLink} (h : ∀ x ∈ l, okL x = true) (acc : List DLink) : (ftC l).foldl rdK (0, acc) = (0, acc ++ l) := by
  induction l generalizing acc with
  | nil => simp [ftC]
  | cons x l ih =>
    have : ftC (x :: l) = ftK x ++ ftC l := by unfold ftC; rw [List.flatMap_cons]
    rw [this, List.foldl_append, ftK_rd (h x (by simp)), ih (fun y hy => h y (by simp [hy]))]
    simp
theorem rdT_step (s : List UInt8) (k : Nat) {b : UInt8} (h : s[k]? = some b) : rdT (s.take (k + 1)) = rdK (rdT (s.take k)) b := by
  rw [take_next h]; unfold rdT; rw [List.foldl_append]; rfl
theorem rdK_len (st : UInt8 × List DLink) (b : UInt8) : st.2.length ≤ (rdK st b).2.length := by
  unfold rdK; split <;> simp
theorem fold_len (s : List UInt8) : ∀ st : UInt8 × List DLink, st.2.length ≤ (s.foldl rdK st).2.length := by
  induction s with
  | nil => intro st; simp
  | cons b s ih => intro st; exact Nat.le_trans (rdK_len st b) (ih _)
theorem rdT_len (s : List UInt8) (k : Nat) : (rdT (s.take k)).2.length ≤ (rdT s).2.length := by
  have : rdT s = (s.drop k).foldl rdK (rdT (s.take k)) := by
    unfold rdT; rw [← List.foldl_append, List.take_append_drop]
  rw [this]; exact fold_len _ _
/-- Reading as the model does. -/
def rdM : List UInt8 → Option (List DLink)
  | [] => some []
  | [k] => if k = 43 ∨ k = 45 ∨ k = 42 then none else some [⟨k, k⟩]
  | k :: b :: t => if k = 43 ∨ k = 45 ∨ k = 42 then (rdM t).map (edL b k :: ·) else (rdM (b :: t)).map ((⟨k, k⟩ : DLink) :: ·)
theorem rdM_plain {k : UInt8} (h : ¬ (k = 43 ∨ k = 45 ∨ k = 42)) (t : List UInt8) : rdM (k :: t) = (rdM t).map ((⟨k, k⟩ : DLink) :: ·) := by
  cases t with
  | nil => simp [rdM, h]
  | cons b t => rw [rdM, if_neg h]
theorem rdM_sign {k : UInt8} (h : k = 43 ∨ k = 45 ∨ k = 42) (b : UInt8) (t : List UInt8) : rdM (k :: b :: t) = (rdM t).map (edL b k :: ·) := by
  rw [rdM, if_pos h]
theorem rdM_end {k : UInt8} (h : k = 43 ∨ k = 45 ∨ k = 42) : rdM [k] = none := by
  rw [rdM, if_pos h]
theorem snd_sign {b : UInt8} (h : isSnd (b.toNat : Int) = true) : ¬ (b = 43 ∨ b = 45 ∨ b = 42) := by
  rintro (rfl | rfl | rfl) <;> exact absurd h (by decide)
theorem ftK_rdM {x : DLink} (h : okL x = true) (t : List UInt8) : rdM (ftK x ++ t) = (rdM t).map (x :: ·) := by
  obtain ⟨a, b⟩ := x
  unfold okL okI at h
  unfold ftK
  simp only at h ⊢
  by_cases hab : a = b
  · subst hab
    rw [if_pos rfl]
    have hs : isSnd (a.toNat : Int) = true := by
      by_cases h0 : (a.toNat : Int) = 0
      · rwa [if_pos h0] at h
      · rwa [if_neg h0, if_pos (Or.inr rfl)] at h
    exact rdM_plain (snd_sign hs) t
  · rw [if_neg hab]
    by_cases h0 : a = 0
    · subst h0
      rw [if_pos rfl]
      exact rdM_sign (by simp) b t
    · have h0' : ¬ (a.toNat : Int) = 0 := fun e => h0 ((u8_zero _).1 e)
      rw [if_neg h0, if_neg h0'] at *
      by_cases hb : b = 0
      · subst hb
        rw [if_pos rfl]
        have := rdM_sign (k := 45) (by simp) a t
        simpa [edL] using this
      · have hb' : ¬ (b.toNat : Int) = 0 := fun e => hb ((u8_zero _).1 e)
        have hab' : ¬ (b.toNat : Int) = (a.toNat : Int) := fun e => hab ((u8_eq _ _).1 e).symm
        rw [if_neg hb]
        rw [if_neg (by rintro (e | e); exact hb' e; exact hab' e), Bool.and_eq_true] at h
        have hsw : (b.toNat : Int) = swapV (a.toNat : Int) := by simpa using h.2
        have := rdM_sign (k := 42) (by simp) a t
        simpa [edL, ← hsw, byt_u8] using this
theorem ftC_rdM {l : List DLink} (h : ∀ x ∈ l, okL x = true) : rdM (ftC l) = some l := by
  induction l with
  | nil => rfl
  | cons x l ih =>
    have : ftC (x :: l) = ftK x ++ ftC l := by unfold ftC; rw [List.flatMap_cons]
    rw [this, ftK_rdM (h x (by simp)), ih (fun y hy => h y (by simp [hy]))]
    rfl
/-- What is read back, by both. -/
def prP (s : List UInt8) : Option (List DLink) := if s = noneB then some [] else if (rdT s).2.length ≤ 16 ∧ fmtC (rdT s).2 = s then some (rdT s).2 else none
def prM (s : List UInt8) : Option (List DLink) := if s = noneB then some [] else (rdM s).bind fun l => if fmtC l = s ∧ s ≠ [] then some l else none
theorem fmt_full {l : List DLink} {s : List UInt8} (hn : s ≠ noneB) (hs : s ≠ []) (h : fmtC l = s) : isCd l = true ∧ ftC l = s := by
  unfold fmtC at h
  cases hc : isCd l with
  | false => rw [hc] at h; exact absurd h.symm hs
  | true =>
    rw [hc, if_pos rfl] at h
    by_cases hl : l = []
    · rw [if_pos hl] at h; exact absurd h.symm hn
    · rw [if_neg hl] at h; exact ⟨rfl, h⟩
theorem fmt_back {l : List DLink} {s : List UInt8} (hs : s ≠ []) (hc : isCd l = true) (h : ftC l = s) : fmtC l = s := by
  unfold fmtC
  have hl : ¬ l = [] := fun e => hs (by rw [← h]; exact ftC_nil.2 e)
  rw [hc, if_pos rfl, if_neg hl, h]
theorem prP_iff {s : List UInt8} (hn : s ≠ noneB) (l : List DLink) : prP s = some l ↔ (s ≠ [] ∧ isCd l = true ∧ ftC l = s) := by
  unfold prP
  rw [if_neg hn]
  constructor
  · intro h
    split at h
    · rename_i hh
      cases h
      have hs : s ≠ [] := by
        rintro rfl
        exact absurd hh.2 (by decide)
      exact ⟨hs, fmt_full hn hs hh.2⟩
    · cases h
  · rintro ⟨hs, hc, hf⟩
    have hr : rdT s = (0, l) := by
      rw [← hf]; unfold rdT
      rw [ftC_rd (fun x hx => isCd_ok hc hx)]; rfl
    rw [hr]
    simp only
    rw [if_pos ⟨isCd_len hc, fmt_back hs hc hf⟩]
theorem prM_iff {s : List UInt8} (hn : s ≠ noneB) (l : List DLink) : prM s = some l ↔ (s ≠ [] ∧ isCd l = true ∧ ftC l = s) := by
  unfold prM
  rw [if_neg hn]
  constructor
  · intro h
    rw [Option.bind_eq_some_iff] at h
    obtain ⟨m, hm, h⟩ := h
    split at h
    · rename_i hh
      cases h
      exact ⟨hh.2, fmt_full hn hh.2 hh.1⟩
    · cases h
  · rintro ⟨hs, hc, hf⟩
    have hr : rdM s = some l := by rw [← hf]; exact ftC_rdM (fun x hx => isCd_ok hc hx)
    rw [hr, Option.bind_some, if_pos ⟨fmt_back hs hc hf, hs⟩]
theorem prM_eq (s : List UInt8) : prM s = prP s := by
  by_cases hn : s = noneB
  · unfold prM prP; rw [if_pos hn, if_pos hn]
  · cases h : prP s with
    | some l => exact (prM_iff hn l).2 ((prP_iff hn l).1 h)
    | none =>
      cases h2 : prM s with
      | none => rfl
      | some l => rw [(prP_iff hn l).2 ((prM_iff hn l).1 h2)] at h; cases h
/-- The links of a form that is kept as it is. -/
def faith (s : List UInt8) : List DLink := s.map fun b => ⟨b, b⟩
def faC (s : ByteArray) : List DLink := if isFm s then faith s.data.toList else []
end Go.Proofs.YtkaihnlknncfdaaGreatDoor

/- Faithfulness: plain mathematics: counts of links, breaks, candidates composed. -/
namespace Go.Proofs.YtkaihnlknncfdaaGreatDoor
set_option maxRecDepth 100000
open Go.RowKit M
set_option linter.unusedVariables false
set_option linter.unusedSimpArgs false

/-- The kinds of links. -/
def delK (x : DLink) : Bool := decide ((x.Out.toNat : Int) = 0)
def insK (x : DLink) : Bool := decide ((x.In.toNat : Int) = 0)
def kepK (x : DLink) : Bool := !decide ((x.Out.toNat : Int) = 0) && !decide ((x.In.toNat : Int) = 0)
def vchK (x : DLink) : Bool := kepK x && !decide ((x.In.toNat : Int) = (x.Out.toNat : Int))
def cntL (p : DLink → Bool) (l : List DLink) : Nat := l.countP p
def cntC (p : DLink → Bool) (l : List DLink) : Nat := if isCd l then cntL p l else 0
theorem cntL_step (p : DLink → Bool) {l : List DLink} {k : Nat} {x : DLink} (h : l[k]? = some x) : cntL p (l.take (k + 1)) = cntL p (l.take k) + (if p x then 1 else 0) := by
  unfold cntL
  rw [take_next h, List.countP_append, List.countP_cons, List.countP_nil, Nat.zero_add]
theorem cntL_yes {p : DLink → Bool} {l : List DLink} {k : Nat} {x : DLink} (h : l[k]? = some x) (hp : p x = true) : cntL p (l.take (k + 1)) = cntL p (l.take k) + 1 := by
  rw [cntL_step p h, if_pos hp]
theorem cntL_no {p : DLink → Bool} {l : List DLink} {k : Nat} {x : DLink} (h : l[k]? = some x) (hp : p x = false) : cntL p (l.take (k + 1)) = cntL p (l.take k) := by
  rw [cntL_step p h, if_neg (by simp [hp]), Nat.add_zero]
theorem cntL_le (p : DLink → Bool) (l : List DLink) (k : Nat) : cntL p (l.take k) ≤ k := by
  refine Nat.le_trans List.countP_le_length ?_
  rw [List.length_take]; omega
theorem cntL_nil (p : DLink → Bool) : cntL p [] = 0 := rfl
/-- From the first link that is kept to the last one. -/
def insideL (l : List DLink) : List DLink := (l.take (l.length - l.reverse.findIdx kepK)).drop (l.findIdx kepK)
theorem inside_none {l : List DLink} (h : ∀ (j : Nat) (y : DLink), l[j]? = some y → kepK y = false) : insideL l = [] := by
  have h1 : l.findIdx kepK = l.length := by
    rw [List.findIdx_eq_length]
    intro x hx
    obtain ⟨j, hj, rfl⟩ := List.getElem_of_mem hx
    exact h j _ (List.getElem?_eq_getElem hj)
  unfold insideL
  rw [h1]
  apply List.drop_eq_nil_of_le
  rw [List.length_take]; omega
theorem first_is {l : List DLink} {f : Nat} {x : DLink} (h : l[f]? = some x) (hx : kepK x = true) (hf : ∀ (j : Nat) (y : DLink), j < f → l[j]? = some y → kepK y = false) : l.findIdx kepK = f := by
  obtain ⟨hl, rfl⟩ := List.getElem?_eq_some_iff.1 h
  rw [List.findIdx_eq hl]
  exact ⟨hx, fun j hj => hf j _ hj (List.getElem?_eq_getElem (by omega))⟩
theorem last_is {l : List DLink} {e : Nat} {x : DLink} (h : l[e]? = some x) (hx : kepK x = true) (he : ∀ (j : Nat) (y : DLink), e < j → l[j]? = some y → kepK y = false) : l.length - l.reverse.findIdx kepK = e + 1 := by
  obtain ⟨hl, rfl⟩ := List.getElem?_eq_some_iff.1 h
  have h1 : l.reverse.findIdx kepK = l.length - 1 - e := by
    have hr : l.length - 1 - e < l.reverse.length := by rw [List.length_reverse]; omega
    rw [List.findIdx_eq hr]
    refine ⟨?_, fun j hj => ?_⟩
    · rw [List.getElem_reverse]
      have : l.length - 1 - (l.length - 1 - e) = e := by omega
      simp only [this]
      exact hx
    · rw [List.getElem_reverse]
      exact he _ _ (by omega) (List.getElem?_eq_getElem (by omega))
  rw [h1]; omega
theorem inside_is {l : List DLink} {f e : Nat} {x y : DLink} (hx : l[f]? = some x) (kx : kepK x = true) (hf : ∀ (j : Nat) (z : DLink), j < f → l[j]? = some z → kepK z = false)
    (hy : l[e]? = some y) (ky : kepK y = true) (he : ∀ (j : Nat) (z : DLink), e < j → l[j]? = some z → kepK z = false) : insideL l = (l.take (e + 1)).drop f := by
  unfold insideL
  rw [first_is hx kx hf, last_is hy ky he]
def brkL (l : List DLink) : Nat := (insideL l).countP (fun x => !kepK x)
def brkC (l : List DLink) : Nat := if isCd l then brkL l else 0
theorem brk_none {l : List DLink} (h : ∀ (j : Nat) (y : DLink), l[j]? = some y → kepK y = false) : brkL l = 0 := by
  unfold brkL; rw [inside_none h]; rfl
def spanN (l : List DLink) (f i : Nat) : Nat := ((l.take i).drop f).countP (fun x => !kepK x)
theorem span_zero (l : List DLink) (f : Nat) : spanN l f f = 0 := by
  unfold spanN
  rw [List.drop_eq_nil_of_le (by rw [List.length_take]; omega)]; rfl
theorem span_step {l : List DLink} {f i : Nat} {x : DLink} (h : l[i]? = some x) (hf : f ≤ i) : spanN l f (i + 1) = spanN l f i + (if kepK x then 0 else 1) := by
  unfold spanN
  have hl := (List.getElem?_eq_some_iff.1 h).1
  rw [take_next h, List.drop_append_of_le_length (by rw [List.length_take]; omega), List.countP_append, List.countP_cons, List.countP_nil]
  cases kepK x <;> simp
theorem span_le (l : List DLink) (f i : Nat) : spanN l f i ≤ i := by
  unfold spanN
  refine Nat.le_trans List.countP_le_length ?_
  rw [List.length_drop, List.length_take]; omega
theorem brk_is {l : List DLink} {f e : Nat} {x y : DLink} (hx : l[f]? = some x) (kx : kepK x = true) (hf : ∀ (j : Nat) (z : DLink), j < f → l[j]? = some z → kepK z = false)
    (hy : l[e]? = some y) (ky : kepK y = true) (he : ∀ (j : Nat) (z : DLink), e < j → l[j]? = some z → kepK z = false) (hfe : f ≤ e) : brkL l = spanN l f e := by
  unfold brkL
  rw [inside_is hx kx hf hy ky he]
  have := span_step hy hfe
  rw [if_pos ky, Nat.add_zero] at this
  exact this
/-- In a valid candidate an edit within is either a sound taken away or one put in. -/
theorem nk_split {x : DLink} (h : okL x = true) : (if kepK x then 0 else 1 : Nat) = (if delK x then 1 else 0) + (if insK x then 1 else 0) := by
  unfold kepK delK insK
  by_cases h1 : (x.Out.toNat : Int) = 0
  · by_cases h2 : (x.In.toNat : Int) = 0
    · exact absurd (h2.trans h1.symm) (ok_put h h2)
    · rw [decide_eq_true h1, decide_eq_false h2]; rfl
  · by_cases h2 : (x.In.toNat : Int) = 0
    · rw [decide_eq_false h1, decide_eq_true h2]; rfl
    · rw [decide_eq_false h1, decide_eq_false h2]; rfl
theorem nk_count : ∀ {l : List DLink}, (∀ x ∈ l, okL x = true) → l.countP (fun x => !kepK x) = cntL delK l + cntL insK l := by
  intro l
  induction l with
  | nil => intro _; rfl
  | cons x l ih =>
    intro h
    have h1 := nk_split (h x (by simp))
    have h2 := ih (fun y hy => h y (by simp [hy]))
    unfold cntL at *
    rw [List.countP_cons, List.countP_cons, List.countP_cons, h2]
    cases hk : kepK x <;> rw [hk] at h1 <;> simp at h1 ⊢ <;> omega
theorem inside_mem {l : List DLink} {x : DLink} (h : x ∈ insideL l) : x ∈ l := List.mem_of_mem_take (List.mem_of_mem_drop h)
theorem brk_two {l : List DLink} (h : isCd l = true) : brkL l = cntL delK (insideL l) + cntL insK (insideL l) :=
  nk_count fun x hx => isCd_ok h (inside_mem hx)
/-- Two candidates one after the other, link by link. -/
def compL : List DLink → List DLink → List DLink
  | [], b => b
  | x :: a, [] => if x.Out = 0 then x :: compL a [] else []
  | x :: a, y :: b => if x.Out = 0 then x :: compL a (y :: b) else if y.In = 0 then y :: compL (x :: a) b else if x.In = 0 ∧ y.Out = 0 then compL a b else ⟨x.In, y.Out⟩ :: compL a b
  termination_by a b => a.length + b.length
theorem comp_nil (b : List DLink) : compL [] b = b := by unfold compL; rfl
theorem comp_away {x : DLink} {a b : List DLink} (h : x.Out = 0) : compL (x :: a) b = x :: compL a b := by
  cases b with
  | nil => rw [compL, if_pos h]
  | cons y b => rw [compL, if_pos h]
theorem comp_put {x y : DLink} {a b : List DLink} (h : ¬ x.Out = 0) (hy : y.In = 0) : compL (x :: a) (y :: b) = y :: compL (x :: a) b := by
  rw [compL, if_neg h, if_pos hy]
theorem comp_none {x y : DLink} {a b : List DLink} (h : ¬ x.Out = 0) (hy : ¬ y.In = 0) (hz : x.In = 0 ∧ y.Out = 0) : compL (x :: a) (y :: b) = compL a b := by
  rw [compL, if_neg h, if_neg hy, if_pos hz]
theorem comp_both {x y : DLink} {a b : List DLink} (h : ¬ x.Out = 0) (hy : ¬ y.In = 0) (hz : ¬ (x.In = 0 ∧ y.Out = 0)) : compL (x :: a) (y :: b) = ⟨x.In, y.Out⟩ :: compL a b := by
  rw [compL, if_neg h, if_neg hy, if_neg hz]
theorem inL_cons (x : DLink) (l : List DLink) : inL (x :: l) = if x.In = 0 then inL l else x.In :: inL l := by
  unfold inL; by_cases h : x.In = 0 <;> simp [h]
theorem outL_cons (x : DLink) (l : List DLink) : outL (x :: l) = if x.Out = 0 then outL l else x.Out :: outL l := by
  unfold outL; by_cases h : x.Out = 0 <;> simp [h]
theorem swapV_obs {a : Int} (h : isObs a = true) : isObs (swapV a) = true ∧ swapV (swapV a) = a := by
  rcases isObs_cases a h with rfl | rfl | rfl | rfl <;> decide
/-- What two links do to a sound, one link can do. -/
theorem ok_comp {x y : DLink} (hx : okL x = true) (hy : okL y = true) (ho : ¬ x.Out = 0) (he : x.Out = y.In) (hz : ¬ (x.In = 0 ∧ y.Out = 0)) : okL ⟨x.In, y.Out⟩ = true := by
  obtain ⟨a, b⟩ := x
  obtain ⟨c, d⟩ := y
  simp only at he ho hz
  subst he
  have hb : ¬ (b.toNat : Int) = 0 := fun e => ho ((u8_zero _).1 e)
  unfold okL okI at hx hy ⊢
  simp only at hx hy ⊢
  rw [if_neg hb] at hy
  by_cases ha : (a.toNat : Int) = 0
  · have hd : ¬ (d.toNat : Int) = 0 := fun e => hz ⟨(u8_zero _).1 ha, (u8_zero _).1 e⟩
    rw [if_pos ha] at hx ⊢
    by_cases hdb : (d.toNat : Int) = (b.toNat : Int)
    · rw [hdb]; exact hx
    · rw [if_neg (by rintro (e | e); exact hd e; exact hdb e), Bool.and_eq_true] at hy
      have e1 : (d.toNat : Int) = swapV (b.toNat : Int) := by simpa using hy.2
      rw [e1]
      rcases isObs_cases _ hy.1 with e | e | e | e <;> rw [e] <;> decide
  · rw [if_neg ha] at hx ⊢
    by_cases hba : (b.toNat : Int) = (a.toNat : Int)
    · rw [hba] at hy; exact hy
    · rw [if_neg (by rintro (e | e); exact hb e; exact hba e), Bool.and_eq_true] at hx
      have e1 : (b.toNat : Int) = swapV (a.toNat : Int) := by simpa using hx.2
      have hs := swapV_obs hx.1
      have hsa : isSnd (a.toNat : Int) = true := by
        rcases isObs_cases _ hx.1 with e | e | e | e <;> rw [e] <;> decide
      by_cases hd : (d.toNat : Int) = 0
      · rw [if_pos (Or.inl hd)]; exact hsa
      · by_cases hdb : (d.toNat : Int) = (b.toNat : Int)
        · by_cases hda : (d.toNat : Int) = (a.toNat : Int)
          · rw [if_pos (Or.inr hda)]; exact hsa
          · rw [if_neg (by rintro (e | e); exact hd e; exact hda e), hx.1, Bool.true_and, hdb, e1]; simp
        · rw [if_neg (by rintro (e | e); exact hd e; exact hdb e), Bool.and_eq_true] at hy
          have e2 : (d.toNat : Int) = swapV (b.toNat : Int) := by simpa using hy.2
          rw [e1, hs.2] at e2
          rw [if_pos (Or.inr e2)]; exact hsa
theorem inL_none {b : List DLink} (h : inL b = []) : ∀ y ∈ b, y.In = 0 := by
  intro y hy
  unfold inL at h
  rw [List.filter_eq_nil_iff] at h
  have := h y.In (List.mem_map.2 ⟨y, hy, rfl⟩)
  simpa using this
theorem comp_sides : ∀ (n : Nat) (a b : List DLink), a.length + b.length = n → outL a = inL b → inL (compL a b) = inL a ∧ outL (compL a b) = outL b := by
  intro n
  induction n using Nat.strongRecOn with
  | _ n ih =>
    intro a b hn h
    cases a with
    | nil =>
      rw [comp_nil]
      refine ⟨?_, rfl⟩
      rw [← h]; rfl
    | cons x a =>
      rw [outL_cons] at h
      by_cases hx : x.Out = 0
      · rw [if_pos hx] at h
        have := ih (a.length + b.length) (by simp at hn; omega) a b rfl h
        rw [comp_away hx, inL_cons, outL_cons, inL_cons, if_pos hx, this.1, this.2]
        exact ⟨rfl, rfl⟩
      · rw [if_neg hx] at h
        cases b with
        | nil => cases h
        | cons y b =>
          rw [inL_cons] at h
          by_cases hy : y.In = 0
          · rw [if_pos hy] at h
            have := ih ((x :: a).length + b.length) (by simp at hn ⊢; omega) (x :: a) b rfl (by rw [outL_cons, if_neg hx]; exact h)
            rw [comp_put hx hy, inL_cons, outL_cons, if_pos hy, this.1, this.2, outL_cons]
            exact ⟨rfl, rfl⟩
          · rw [if_neg hy] at h
            injection h with h1 h2
            have := ih (a.length + b.length) (by simp at hn; omega) a b rfl h2
            by_cases hz : x.In = 0 ∧ y.Out = 0
            · rw [comp_none hx hy hz, inL_cons, outL_cons, if_pos hz.1, if_pos hz.2]
              exact this
            · rw [comp_both hx hy hz, inL_cons, outL_cons, inL_cons, outL_cons, this.1, this.2]
              exact ⟨rfl, rfl⟩
theorem comp_ok : ∀ (n : Nat) (a b : List DLink), a.length + b.length = n → outL a = inL b → (∀ x ∈ a, okL x = true) → (∀ x ∈ b, okL x = true) → ∀ x ∈ compL a b, okL x = true := by
  intro n
  induction n using Nat.strongRecOn with
  | _ n ih =>
    intro a b hn h ka kb
    cases a with
    | nil => rw [comp_nil]; exact kb
    | cons x a =>
      rw [outL_cons] at h
      have kx := ka x (by simp)
      have ka' : ∀ z ∈ a, okL z = true := fun z hz => ka z (by simp [hz])
      by_cases hx : x.Out = 0
      · rw [if_pos hx] at h
        have := ih (a.length + b.length) (by simp at hn; omega) a b rfl h ka' kb
        rw [comp_away hx]
        intro z hz
        rcases List.mem_cons.1 hz with rfl | hz
        · exact kx
        · exact this z hz
      · rw [if_neg hx] at h
        cases b with
        | nil => cases h
        | cons y b =>
          have ky := kb y (by simp)
          have kb' : ∀ z ∈ b, okL z = true := fun z hz => kb z (by simp [hz])
          rw [inL_cons] at h
          by_cases hy : y.In = 0
          · rw [if_pos hy] at h
            have := ih ((x :: a).length + b.length) (by simp at hn ⊢; omega) (x :: a) b rfl (by rw [outL_cons, if_neg hx]; exact h) ka kb'
            rw [comp_put hx hy]
            intro z hz
            rcases List.mem_cons.1 hz with rfl | hz
            · exact ky
            · exact this z hz
          · rw [if_neg hy] at h
            injection h with h1 h2
            have := ih (a.length + b.length) (by simp at hn; omega) a b rfl h2 ka' kb'
            by_cases hz : x.In = 0 ∧ y.Out = 0
            · rw [comp_none hx hy hz]; exact this
            · rw [comp_both hx hy hz]
              intro z hm
              rcases List.mem_cons.1 hm with rfl | hm
              · exact ok_comp kx ky hx h1 hz
              · exact this z hm
/-- A valid link leads to a sound or comes from one. -/
theorem len_sides : ∀ {l : List DLink}, (∀ x ∈ l, okL x = true) → l.length ≤ (inL l).length + (outL l).length := by
  intro l
  induction l with
  | nil => intro _; simp
  | cons x l ih =>
    intro h
    have h1 := ih (fun y hy => h y (by simp [hy]))
    have hx := h x (by simp)
    rw [inL_cons, outL_cons, List.length_cons]
    by_cases h2 : x.In = 0
    · have h3 : ¬ x.Out = 0 := fun e => ok_put hx ((u8_zero _).2 h2) (by rw [h2, e])
      rw [if_pos h2, if_neg h3, List.length_cons]; omega
    · rw [if_neg h2, List.length_cons]
      split
      · omega
      · rw [List.length_cons]; omega
theorem isCd_forms {l : List DLink} (h : isCd l = true) : isFm ⟨(inL l).toArray⟩ = true ∧ isFm ⟨(outL l).toArray⟩ = true := by
  unfold isCd at h
  rw [Bool.and_eq_true, Bool.and_eq_true, Bool.and_eq_true] at h
  exact h.2.2
theorem isCd_of {l : List DLink} (h : ∀ x ∈ l, okL x = true) (hi : isFm ⟨(inL l).toArray⟩ = true) (ho : isFm ⟨(outL l).toArray⟩ = true) : isCd l = true := by
  have h1 := len_sides h
  have h2 : (inL l).length ≤ 8 := isFm_size hi
  have h3 : (outL l).length ≤ 8 := isFm_size ho
  unfold isCd
  rw [List.all_eq_true.2 h, hi, ho, show decide ((l.length : Int) ≤ 16) = true by simp; omega]
  rfl
theorem comp_valid {a b : List DLink} (ha : isCd a = true) (hb : isCd b = true) (h : outL a = inL b) : isCd (compL a b) = true := by
  have hs := comp_sides _ a b rfl h
  refine isCd_of (comp_ok _ a b rfl h (fun x hx => isCd_ok ha hx) (fun x hx => isCd_ok hb hx)) ?_ ?_
  · rw [hs.1]; exact (isCd_forms ha).1
  · rw [hs.2]; exact (isCd_forms hb).2
/-- Whether two candidates can be composed; what they come to. -/
def compB (a b : List DLink) : Bool := isCd a && isCd b && decide (outL a = inL b)
def compC (a b : List DLink) : List DLink := if compB a b then compL a b else []
theorem compC_len (a b : List DLink) : (compC a b).length ≤ 16 := by
  unfold compC
  split
  · rename_i h
    unfold compB at h
    rw [Bool.and_eq_true, Bool.and_eq_true] at h
    exact isCd_len (comp_valid h.1.1 h.1.2 (by simpa using h.2))
  · simp
end Go.Proofs.YtkaihnlknncfdaaGreatDoor

/- SwapVoice of both: what it answers. -/
namespace Go.Proofs.YtkaihnlknncfdaaGreatDoor
set_option maxRecDepth 100000
open Go.RowKit

theorem implSwap_any (x : Int) (w : World) :
    Calls Tryz.prog 145 #[.int .u8 x] w fun e w' => e = .returned (.tuple #[.int .u8 (swapV x), .bool (isObs x)]) ∧ w = w' := by
  go_enter Tryz.func145, Tryz.ntmps145
  go_wp2
  all_goals
    go_ret2
    refine ⟨?_, rfl⟩
    unfold swapV isObs
    simp_all
theorem specSwap_any (x : Int) (w : World) :
    Calls Tryz.prog 112 #[.int .u8 x] w fun e w' => e = .returned (.tuple #[.int .u8 (swapV x), .bool (isObs x)]) ∧ w = w' := by
  go_enter Tryz.func112, Tryz.ntmps112
  go_wp2
  all_goals
    go_ret2
    refine ⟨?_, rfl⟩
    unfold swapV isObs
    simp_all
end Go.Proofs.YtkaihnlknncfdaaGreatDoor
