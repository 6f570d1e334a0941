/- Merged: Ret Snd Ss Shv L2s Math Sl Fm Rp TrLink TrCandidate Cd Gn Ra Rb TtLink TtLinkS Nb Gd Sv N1 Si If1 Md0 Md1. -/
import Derived.Test.YtlkhknoaifbajaaProg
import Derived.WalkKit
import Derived.Lib.Bytealg
import Derived.Lib.Hide
import Derived.Laws.IdiomStrings
import Derived.Lib.Slices
import Derived.Laws.Rows
import Derived.Outline
import Derived.Maps.AppendAt
import Derived.Test.YtlkhknoaifbajaaRows
import Derived.Laws.AppendOwnNone
import Derived.Laws.AppendOwn
import Derived.Laws.OwnMore
import Derived.BigQuiet
import Derived.Lib.QuietBelow
import Derived.Laws.Externs
import Derived.Deep.RegionLaw
import Derived.BigRegion
import Derived.Deep.DeepCutAuto
/- Equal answers are equal endings. -/
namespace Go.Proofs.Ytlkhknoaifbajaa
set_option maxRecDepth 100000
open Go.RowKit

theorem ret_str {a b : ByteArray} (h : a = b) : Ending.returned (.string a) = .returned (.string b) := by rw [h]
theorem ret_bool {a b : Bool} (h : a = b) : Ending.returned (.bool a) = .returned (.bool b) := by rw [h]
theorem ret_i64 {a b : Int} (h : a = b) : Ending.returned (.int .i64 a) = .returned (.int .i64 b) := by rw [h]
end Go.Proofs.Ytlkhknoaifbajaa

/- The sounds as numbers: which bytes are sounds, obstruents, and have a feature; plain mathematics. -/
namespace Go.Proofs.Ytlkhknoaifbajaa
set_option maxRecDepth 100000
open Go.RowKit

def isSnd (x : Int) : Bool := x == 112 || x == 116 || x == 98 || x == 100 || x == 110 || x == 97 || x == 105
def isObs (x : Int) : Bool := x == 112 || x == 116 || x == 98 || x == 100
def swapV (x : Int) : Int := if x = 112 then 98 else if x = 98 then 112 else if x = 116 then 100 else if x = 100 then 116 else x
/-- The k-th sound. -/
def sndAt (k : Nat) : Int := [112, 116, 98, 100, 110, 97, 105].getD k 0
def hasF (x f : Int) : Bool :=
  if f = 0 then x == 97 || x == 105 else if f = 1 then x == 98 || x == 100 || x == 110 || x == 97 || x == 105 else if f = 2 then x == 110
  else if f = 3 then x == 112 || x == 98 else if f = 4 then x == 105 else false
theorem snd_index (x : Int) (h0 : 0 ≤ x) (h1 : x < 256) : decide (0 ≤ Lib.indexByte [112, 116, 98, 100, 110, 97, 105] x.toNat.toUInt8) = isSnd x := by
  obtain ⟨n, rfl⟩ := Int.eq_ofNat_of_zero_le h0
  have key : ∀ m : Fin 256, decide (0 ≤ Lib.indexByte [112, 116, 98, 100, 110, 97, 105] m.val.toUInt8) = isSnd (m.val : Int) := by decide +kernel
  exact key ⟨n, by omega⟩
theorem obs_index (x : Int) (h0 : 0 ≤ x) (h1 : x < 256) : decide (0 ≤ Lib.indexByte [112, 116, 98, 100] x.toNat.toUInt8) = isObs x := by
  obtain ⟨n, rfl⟩ := Int.eq_ofNat_of_zero_le h0
  have key : ∀ m : Fin 256, decide (0 ≤ Lib.indexByte [112, 116, 98, 100] m.val.toUInt8) = isObs (m.val : Int) := by decide +kernel
  exact key ⟨n, by omega⟩
/-- The bytes that have a feature, as the program's table has them. -/
def featL : Nat → List UInt8
  | 0 => [97, 105] | 1 => [98, 100, 110, 97, 105] | 2 => [110] | 3 => [112, 98] | 4 => [105] | _ => []
theorem feat_index (x : Int) (k : Nat) (h0 : 0 ≤ x) (h1 : x < 256) (hk : k < 5) : decide (0 ≤ Lib.indexByte (featL k) x.toNat.toUInt8) = hasF x k := by
  obtain ⟨n, rfl⟩ := Int.eq_ofNat_of_zero_le h0
  have key : ∀ k : Fin 5, ∀ m : Fin 256, decide (0 ≤ Lib.indexByte (featL k.val) m.val.toUInt8) = hasF (m.val : Int) (k.val : Int) := by decide +kernel
  exact key ⟨k, hk⟩ ⟨n, by omega⟩
theorem hasF_no (x f : Int) (h : f < 0 ∨ 4 < f) : hasF x f = false := by
  unfold hasF
  rw [if_neg (by omega), if_neg (by omega), if_neg (by omega), if_neg (by omega), if_neg (by omega)]
theorem isSnd_at (x : Int) (k : Nat) (hk : k < 7) (h : sndAt k = x) : isSnd x = true := by
  subst h
  have key : ∀ k : Fin 7, isSnd (sndAt k.val) = true := by decide
  exact key ⟨k, hk⟩
theorem isSnd_none (x : Int) (h : ∀ k, k < 7 → sndAt k ≠ x) : isSnd x = false := by
  have h0 := h 0 (by omega); have h1 := h 1 (by omega); have h2 := h 2 (by omega); have h3 := h 3 (by omega)
  have h4 := h 4 (by omega); have h5 := h 5 (by omega); have h6 := h 6 (by omega)
  simp [sndAt] at h0 h1 h2 h3 h4 h5 h6
  unfold isSnd
  simp
  omega
end Go.Proofs.Ytlkhknoaifbajaa

/- The model's IsSound: what it answers. -/
namespace Go.Proofs.Ytlkhknoaifbajaa
set_option maxRecDepth 100000
open Go.RowKit

/-- The k-th byte of Sounds, as it is read. -/
theorem snd_read (k : Nat) (hk : k < 7) : (((⟨#[112, 116, 98, 100, 110, 97, 105]⟩ : ByteArray)[k]'hk).toNat : Int) = sndAt k := by
  have key : ∀ k : Fin 7, (((⟨#[112, 116, 98, 100, 110, 97, 105]⟩ : ByteArray)[k.val]'k.isLt).toNat : Int) = sndAt k.val := by decide
  exact key ⟨k, hk⟩
theorem specIsSound_any (x : Int) (w : World) :
    Calls Try.prog 69 #[.int .u8 x] w fun e w' => e = .returned (.bool (isSnd x)) ∧ w = w' := by
  go_enter Try.func69, Try.ntmps69
  go_wp2
  go_loop [3] (fun i => ∃ j : Nat, j ≤ 7 ∧ i = .int .i64 j ∧ Hid (∀ k, k < j → sndAt k ≠ x)) (fun i => 7 - (intOf i).toNat)
  case atStart => exact ⟨0, by omega, rfl, fun k hk => by omega⟩
  case round =>
    obtain ⟨j, hj, rfl, hx⟩ := hrel
    by_cases hlt : j < 7
    · go_wp2
      · rename_i hq _
        have he : sndAt j = x := by rw [← snd_read j hlt]; simpa using hq
        go_ret
        exact ⟨ret_bool (isSnd_at x j hlt he).symm, rfl⟩
      · rename_i hq
        have he : sndAt j ≠ x := by rw [← snd_read j hlt]; simpa using hq
        go_round
        case rel => exact ⟨j + 1, by omega, by go_num, fun k hk => if hk2 : k = j then hk2 ▸ he else hx.out k (by omega)⟩
        case measure => simp [intOf]; omega
    · obtain rfl : j = 7 := by omega
      go_wp2
      go_ret
      exact ⟨ret_bool (isSnd_none x hx.out).symm, rfl⟩
end Go.Proofs.Ytlkhknoaifbajaa

/- What a list of sounds shares: plain mathematics. -/
namespace Go.Proofs.Ytlkhknoaifbajaa
set_option maxRecDepth 100000

def sg (x : Int) (k : Nat) : Int := if hasF x k then 1 else -1
theorem sg_yes {x : Int} {k : Nat} (h : hasF x k = true) : sg x k = 1 := by unfold sg; rw [if_pos h]
theorem sg_no {x : Int} {k : Nat} (h : hasF x k = false) : sg x k = -1 := by unfold sg; rw [if_neg (by simp [h])]
def com (A B : Nat → Int) (k : Nat) : Int := if A k = B k then A k else 0
theorem com_eq {A B : Nat → Int} {k : Nat} (h : A k = B k) : com A B k = A k := by unfold com; rw [if_pos h]
theorem com_ne {A B : Nat → Int} {k : Nat} (h : A k ≠ B k) : com A B k = 0 := by unfold com; rw [if_neg h]
/-- A byte's number. -/
def nb (b : UInt8) : Int := (b.toNat : Int)
theorem nb_ge (b : UInt8) : 0 ≤ nb b := by unfold nb; omega
theorem nb_lt (b : UInt8) : nb b < 256 := by unfold nb; have := UInt8.toNat_lt b; omega
/-- What all sounds of a list share: 1 if all have the feature, -1 if none has, else 0. -/
def shv (l : List UInt8) (k : Nat) : Int := if l.all (fun b => hasF (nb b) k) then 1 else if l.all (fun b => !hasF (nb b) k) then -1 else 0
theorem shv_one (b : UInt8) : shv [b] = sg (nb b) := by
  funext k
  unfold shv sg
  cases h : hasF (nb b) k <;> simp [h]
theorem shv_step (p : List UInt8) (b : UInt8) (hp : p ≠ []) : com (shv p) (sg (nb b)) = shv (p ++ [b]) := by
  funext k
  unfold com shv sg
  simp only [List.all_append, List.all_cons, List.all_nil, Bool.and_true]
  cases h1 : p.all (fun b => hasF (nb b) k) <;> cases h2 : p.all (fun b => !hasF (nb b) k) <;> cases h3 : hasF (nb b) k <;> simp
  -- both: the list is empty
  all_goals
    exfalso
    cases p with
    | nil => exact hp rfl
    | cons c p =>
      simp only [List.all_cons, Bool.and_eq_true] at h1 h2
      have := h1.1
      rw [this] at h2
      exact absurd h2.1 (by simp)
theorem shv_self (b : UInt8) : com (shv [b]) (sg (nb b)) = shv [b] := by
  funext k
  rw [shv_one]
  exact com_eq rfl
/-- A text that has shared features. -/
def okCls (l : List UInt8) : Bool := !l.isEmpty && decide (l.length ≤ 20) && l.all (fun b => isSnd (nb b))
end Go.Proofs.Ytlkhknoaifbajaa

/- Whether a text has sounds only: what the model's helper answers. -/
namespace Go.Proofs.Ytlkhknoaifbajaa
set_option maxRecDepth 100000
open Go.RowKit

theorem all_take (s : ByteArray) (i : Nat) (h : i < s.size) : s.data.toList.take (i + 1) = s.data.toList.take i ++ [s[i]] := by
  rw [List.take_add_one]
  have hl : i < s.data.toList.length := by simpa using h
  rw [List.getElem?_eq_getElem hl]
  rfl
theorem of_not_true {b : Bool} (h : (!b) = true) : b = false := by simpa using h
theorem of_not_false {b : Bool} (h : (!b) = false) : b = true := by simpa using h
theorem ne_nil_of {s : ByteArray} (h : 0 < s.size) : s.data.toList ≠ [] := by
  intro e
  have h3 : s.data.toList.length = s.size := by simp
  rw [e, List.length_nil] at h3
  omega
def l2S (l : List UInt8) : Bool := l.all (fun b => isSnd (nb b)) && decide (l.length ≤ 20)
theorem l2S_not {s : ByteArray} (i : Nat) (h : i < s.size) (hn : isSnd (s[i].toNat : Int) = false) : l2S s.data.toList = false := by
  unfold l2S
  have hm : s[i] ∈ s.data.toList := by
    have hl : i < s.data.toList.length := by simpa using h
    exact List.getElem_mem (n := i) hl
  have : s.data.toList.all (fun b => isSnd (nb b)) = false := by
    rw [List.all_eq_false]
    exact ⟨s[i], hm, by show ¬ isSnd (s[i].toNat : Int) = true; simp [hn]⟩
  rw [this]
  simp
theorem l2S_all {s : ByteArray} (h : ∀ i, (hi : i < s.size) → isSnd (s[i].toNat : Int) = true) : l2S s.data.toList = decide ((s.size : Int) ≤ 20) := by
  unfold l2S
  have ha : s.data.toList.all (fun b => isSnd (nb b)) = true := by
    rw [List.all_eq_true]
    intro b hb
    obtain ⟨i, hi, rfl⟩ := List.mem_iff_getElem.1 hb
    exact h i (by simpa using hi)
  have hl : s.data.toList.length = s.size := by simp
  rw [ha, hl, Bool.true_and]
  simp
  omega
theorem specL2_any (s : ByteArray) (w : World) (hs : s.size ≤ maxLen) :
    Calls Try.prog 100 #[.string s] w fun e w' => e = .returned (.bool (l2S s.data.toList)) ∧ w = w' := by
  unfold maxLen at hs
  go_enter Try.func100, Try.ntmps100
  go_wp2
  go_loop [3] (fun i => ∃ (j : Nat), j ≤ s.size ∧ i = .int .i64 j ∧ Hid (∀ k, (hk : k < s.size) → k < j → isSnd (s[k].toNat : Int) = true)) (fun i => s.size - (intOf i).toNat)
  case atStart => exact ⟨0, by omega, rfl, fun k _ hk => by omega⟩
  case round =>
    obtain ⟨j, hj, rfl, hall⟩ := hrel
    by_cases hlt : j < s.size
    · go_wp2_with fail
      refine (specIsSound_any _ _).mono ?_
      rintro e w2 ⟨rfl, rfl⟩
      go_wp2
      · have hn : isSnd (s[j].toNat : Int) = false := of_not_true (by assumption)
        go_ret
        exact ⟨ret_bool (l2S_not j hlt hn).symm, rfl⟩
      · have hn : isSnd (s[j].toNat : Int) = true := of_not_false (by assumption)
        go_round
        case rel =>
          refine ⟨j + 1, by omega, by go_num, fun k hk hkj => ?_⟩
          by_cases hkj2 : k = j
          · subst hkj2; exact hn
          · exact hall.out k hk (by omega)
        case measure => simp [intOf]; omega
    · obtain rfl : j = s.size := by omega
      have HO := Lib.hid (l2S_all fun i hi => hall.out i hi hi)
      go_wp2
      go_ret
      exact ⟨ret_bool HO.out.symm, rfl⟩
end Go.Proofs.Ytlkhknoaifbajaa

/- Plain mathematics on numbers and lists of bytes: no condition. -/
namespace Go.Proofs.Ytlkhknoaifbajaa.M
set_option maxRecDepth 100000

/-- The byte of a number. -/
def byt (n : Int) : UInt8 := UInt8.ofNat n.toNat
/-- The lowest k bytes of n, the highest first. -/
def lowB (n : Int) : Nat → List UInt8
  | 0 => []
  | k + 1 => lowB (n / 256) k ++ [byt (n % 256)]
/-- What is left of n above its lowest k bytes. -/
def hiB (n : Int) : Nat → Int
  | 0 => n
  | k + 1 => hiB (n / 256) k
theorem lowB_len (n : Int) (k : Nat) : (lowB n k).length = k := by
  induction k generalizing n with
  | zero => rfl
  | succ k ih => simp [lowB, ih]
theorem hiB_eq (n : Int) (k : Nat) : hiB n k = n / 256 ^ k := by
  induction k generalizing n with
  | zero => simp [hiB]
  | succ k ih => rw [hiB, ih, Int.ediv_ediv_of_nonneg (by omega), Int.pow_succ']
/-- The text of EncodeFixed for a width in its range and n at least 0. -/
def encF (n : Int) (k : Nat) : ByteArray := if hiB n k = 0 then ⟨(lowB n k).toArray⟩ else ⟨#[]⟩
theorem encF_in {n : Int} {k : Nat} {c : Int} {out : List UInt8} (h : hiB n k = c) (h0 : c = 0) (hl : lowB n k = out) : encF n k = ⟨out.toArray⟩ := by
  unfold encF; rw [h, if_pos h0, hl]
theorem encF_out {n : Int} {k : Nat} {c : Int} (h : hiB n k = c) (h0 : 0 < c) : encF n k = ⟨#[]⟩ := by
  unfold encF; rw [h, if_neg (by omega)]
end Go.Proofs.Ytlkhknoaifbajaa.M
namespace Go.Proofs.Ytlkhknoaifbajaa.M
set_option maxRecDepth 100000
theorem byt_toNat (x : Int) (h0 : 0 ≤ x) (h1 : x < 256) : ((byt x).toNat : Int) = x := by
  unfold byt
  rw [UInt8.toNat_ofNat']
  omega
theorem hiB_pow (n : Int) (k : Nat) : hiB n k = n / 2 ^ (8 * k) := by
  rw [hiB_eq, Int.pow_mul]; rfl
end Go.Proofs.Ytlkhknoaifbajaa.M

/- A slice of one sound; sums of short texts. -/
namespace Go.Proofs.Ytlkhknoaifbajaa
set_option maxRecDepth 100000
open Go.RowKit M

/-- A slice of one sound. -/
theorem snd_slice (j : Nat) (h : j < 7) (w : World) : (Instr.slice 9 (.string ⟨#[112, 116, 98, 100, 110, 97, 105]⟩) (some (.int .i64 j)) (some (.int .i64 ((j : Int) + 1))) none).run Try.prog w = .ok (.string ⟨#[byt (sndAt j)]⟩) w := by
  rcases (show j = 0 ∨ j = 1 ∨ j = 2 ∨ j = 3 ∨ j = 4 ∨ j = 5 ∨ j = 6 by omega) with rfl | rfl | rfl | rfl | rfl | rfl | rfl <;> kernel_rfl
theorem snd_extract (j : Nat) (h : j < 7) : (⟨#[112, 116, 98, 100, 110, 97, 105]⟩ : ByteArray).extract j (j + 1) = ⟨#[byt (sndAt j)]⟩ := by
  rcases (show j = 0 ∨ j = 1 ∨ j = 2 ∨ j = 3 ∨ j = 4 ∨ j = 5 ∨ j = 6 by omega) with rfl | rfl | rfl | rfl | rfl | rfl | rfl <;> rfl
theorem cat_last (l : List UInt8) (a : UInt8) : (⟨l.toArray⟩ : ByteArray) ++ ⟨#[a]⟩ = ⟨(l ++ [a]).toArray⟩ := by
  apply ByteArray.ext
  simp
theorem str_add (t u : ByteArray) (h : t.size + u.size ≤ 100) (w : World) : (Op.stringOp .add t u).run Try.prog w = .ok (.string (t ++ u)) w := by
  rw [run_string_add_sum _ _ _ (by omega)]
end Go.Proofs.Ytlkhknoaifbajaa

/- Forms: plain mathematics. -/
namespace Go.Proofs.Ytlkhknoaifbajaa
set_option maxRecDepth 100000
open Go.RowKit M

/-- The i-th byte's number. -/
def bAt (s : ByteArray) (i : Nat) : Int := ((s.data.toList.getD i 0).toNat : Int)
theorem bAt_in (s : ByteArray) (i : Nat) (h : i < s.size) : (s[i].toNat : Int) = bAt s i := by
  unfold bAt
  have hl : i < s.data.toList.length := by simpa using h
  rw [List.getD_eq_getElem?_getD, List.getElem?_eq_getElem hl]
  rfl
def isFm (s : ByteArray) : Bool := l2S s.data.toList && decide ((s.size : Int) ≤ 8)
theorem isFm_size {s : ByteArray} (h : isFm s = true) : s.size ≤ 8 := by
  unfold isFm at h; simp at h; omega
/-- Whether there is a vowel at i. -/
def vowAt (s : ByteArray) (i : Int) : Bool := decide (0 ≤ i) && (decide (i < (s.size : Int)) && hasF (bAt s i.toNat) 0)
theorem vowAt_in (s : ByteArray) (i : Nat) (h : i < s.size) : vowAt s i = hasF (bAt s i) 0 := by
  unfold vowAt
  have h1 : decide ((0 : Int) ≤ (i : Int)) = true := by simp
  have h2 : decide ((i : Int) < (s.size : Int)) = true := by simp; omega
  rw [h1, h2, Bool.true_and, Bool.true_and, Int.toNat_natCast]
/-- The vowels among the first j bytes. -/
def cntV (s : ByteArray) (j : Nat) : Nat := ((List.range j).filter fun i => hasF (bAt s i) 0).length
theorem cntV_le (s : ByteArray) (j : Nat) : cntV s j ≤ j := Nat.le_trans (List.length_filter_le _ _) (by simp)
theorem cntV_yes (s : ByteArray) (j : Nat) (h : hasF (bAt s j) 0 = true) : cntV s (j + 1) = cntV s j + 1 := by
  unfold cntV; rw [List.range_succ, List.filter_append]; simp [h]
theorem cntV_no (s : ByteArray) (j : Nat) (h : hasF (bAt s j) 0 = false) : cntV s (j + 1) = cntV s j := by
  unfold cntV; rw [List.range_succ, List.filter_append]; simp [h]
/-- V for each vowel and C for each other byte, of the first j. -/
def skelL (s : ByteArray) (j : Nat) : List UInt8 := (List.range j).map fun i => if hasF (bAt s i) 0 then 86 else 67
theorem skelL_len (s : ByteArray) (j : Nat) : (skelL s j).length = j := by simp [skelL]
theorem skelL_yes (s : ByteArray) (j : Nat) (h : hasF (bAt s j) 0 = true) : skelL s (j + 1) = skelL s j ++ [86] := by
  unfold skelL; rw [List.range_succ, List.map_append]; simp [h]
theorem skelL_no (s : ByteArray) (j : Nat) (h : hasF (bAt s j) 0 = false) : skelL s (j + 1) = skelL s j ++ [67] := by
  unfold skelL; rw [List.range_succ, List.map_append]; simp [h]
/-- The first j bytes, backwards. -/
def revL (s : ByteArray) (j : Nat) : List UInt8 := (s.data.toList.take j).reverse
theorem revL_step (s : ByteArray) (j : Nat) (h : j < s.size) : revL s (j + 1) = s[j] :: revL s j := by
  unfold revL; rw [all_take s j h, List.reverse_append]; rfl
theorem revL_len (s : ByteArray) (j : Nat) (h : j ≤ s.size) : (revL s j).length = j := by
  unfold revL; rw [List.length_reverse, List.length_take]; simp; omega
theorem revL_all (s : ByteArray) : revL s s.size = s.data.toList.reverse := by
  unfold revL; rw [List.take_of_length_le (by simp)]
theorem extract_one (s : ByteArray) (i : Nat) (h : i < s.size) : s.extract i (i + 1) = ⟨#[s[i]]⟩ := by
  apply ByteArray.ext
  rw [ByteArray.data_extract]
  apply Array.ext
  · simp; have : i < s.data.size := h; omega
  · intro k hk _
    simp at hk
    have : k = 0 := by omega
    subst this
    simp
    rfl
theorem cat_first (a : UInt8) (l : List UInt8) : (⟨#[a]⟩ : ByteArray) ++ ⟨l.toArray⟩ = ⟨(a :: l).toArray⟩ := by
  apply ByteArray.ext
  simp
/-- The forms of n sounds. -/
def sndB (j : Nat) : ByteArray := ⟨#[byt (sndAt j)]⟩
def ofTo (o : List ByteArray) (k j : Nat) : List ByteArray := (o.take k).flatMap (fun x => (List.range 7).map fun i => x ++ sndB i) ++ (List.range j).map fun i => (o.getD k ByteArray.empty) ++ sndB i
theorem ofTo_step (o : List ByteArray) (k j : Nat) : ofTo o k (j + 1) = ofTo o k j ++ [(o.getD k ByteArray.empty) ++ sndB j] := by
  unfold ofTo; rw [show List.range (j + 1) = List.range j ++ [j] from List.range_succ, List.map_append, List.append_assoc]; rfl
theorem ofTo_next (o : List ByteArray) (k : Nat) (h : k < o.length) : ofTo o k 7 = ofTo o (k + 1) 0 := by
  unfold ofTo
  rw [List.take_add_one, List.getElem?_eq_getElem h, List.flatMap_append, List.getD_eq_getElem?_getD, List.getElem?_eq_getElem h]
  simp
def ofL : Nat → List ByteArray
  | 0 => [⟨#[]⟩]
  | n + 1 => (ofL n).flatMap fun x => (List.range 7).map fun i => x ++ sndB i
theorem ofTo_all (o : List ByteArray) : ofTo o o.length 0 = o.flatMap fun x => (List.range 7).map fun i => x ++ sndB i := by
  unfold ofTo; rw [List.take_length]; simp
def formsL (n : Int) : List ByteArray := if 0 ≤ n ∧ n ≤ 3 then ofL n.toNat else []
end Go.Proofs.Ytlkhknoaifbajaa

/- Data in memory: what the cells of a value stand for, and the places that it owns. -/
namespace Go.Proofs.Ytlkhknoaifbajaa
set_option maxRecDepth 100000
open Go.RowKit
set_option linter.unusedVariables false

/-- How data of one kind lies in cells: 'rd s w vs x F': in the world w the cells vs stand for x; what they lead to lies within F; with s nothing of it overlaps and all of it can be written. -/
structure Rep (α : Type) where
  size : Nat
  rd : Bool → World → List Value → α → (Addr → Prop) → Prop
  lab : Nat → α → α
  labv : Nat → α → α
  cnt : α → Nat
  cntv : α → Nat
  sz : α → Nat
  len : ∀ {s w vs x F}, rd s w vs x F → vs.length = size
  frame : ∀ {s w w' vs x F}, rd s w vs x F → (∀ a, F a → w'.cell? a = w.cell? a ∧ w'.frozen? a = w.frozen? a) → rd s w' vs x F
  weak : ∀ {s w vs x F}, rd s w vs x F → rd false w vs x F
  mono : ∀ {s w vs x F G}, rd s w vs x F → (∀ a, F a → G a) → rd s w vs x G
  tight : ∀ {s w vs x F}, rd s w vs x F → rd s w vs x (fun a => F a ∧ a.block < w.heap.size)
def I64 (z : Int) : Prop := -9223372036854775808 ≤ z ∧ z ≤ 9223372036854775807
def Rep.int : Rep Int where
  size := 1
  rd := fun _ _ vs z _ => vs = [.int .i64 z] ∧ I64 z
  lab := fun k _ => (k : Int)
  labv := fun _ z => z
  cnt := fun _ => 1
  cntv := fun _ => 0
  sz := fun _ => 0
  len := fun h => by rw [h.1]; rfl
  frame := fun h _ => h
  weak := fun h => h
  mono := fun h _ => h
  tight := fun h => h
def Rep.byte : Rep UInt8 where
  size := 1
  rd := fun _ _ vs z _ => vs = [.int .u8 (z.toNat : Int)]
  lab := fun k _ => UInt8.ofNat k
  labv := fun _ z => z
  cnt := fun _ => 1
  cntv := fun _ => 0
  sz := fun _ => 0
  len := fun h => by rw [h]; rfl
  frame := fun h _ => h
  weak := fun h => h
  mono := fun h _ => h
  tight := fun h => h
def Rep.bool : Rep Bool where
  size := 1
  rd := fun _ _ vs z _ => vs = [.bool z]
  lab := fun k _ => decide (k % 3 = 0)
  labv := fun _ z => z
  cnt := fun _ => 1
  cntv := fun _ => 0
  sz := fun _ => 0
  len := fun h => by rw [h]; rfl
  frame := fun h _ => h
  weak := fun h => h
  mono := fun h _ => h
  tight := fun h => h
/-- Texts; m: the laws' marks. -/
def Rep.str (m : Nat → ByteArray) : Rep ByteArray where
  size := 1
  rd := fun _ _ vs z _ => vs = [.string z] ∧ z.size ≤ 9223372036854775807
  lab := fun k _ => m k
  labv := fun _ z => z
  cnt := fun _ => 1
  cntv := fun _ => 0
  sz := fun z => z.size
  len := fun h => by rw [h.1]; rfl
  frame := fun h _ => h
  weak := fun h => h
  mono := fun h _ => h
  tight := fun h => h
def Rep.pair {α β : Type} (A : Rep α) (B : Rep β) : Rep (α × β) where
  size := A.size + B.size
  rd := fun s w vs x F => ∃ xs ys F1 F2, vs = xs ++ ys ∧ A.rd s w xs x.1 F1 ∧ B.rd s w ys x.2 F2 ∧ (∀ a, F1 a → F a) ∧ (∀ a, F2 a → F a) ∧ (s = true → ∀ a, F1 a → ¬ F2 a)
  lab := fun k x => (A.lab k x.1, B.lab (k + A.cnt x.1) x.2)
  labv := fun k x => (A.labv k x.1, B.labv (k + A.cntv x.1) x.2)
  cnt := fun x => A.cnt x.1 + B.cnt x.2
  cntv := fun x => A.cntv x.1 + B.cntv x.2
  sz := fun x => A.sz x.1 + B.sz x.2
  len := fun h => by obtain ⟨xs, ys, F1, F2, rfl, h1, h2, _⟩ := h; rw [List.length_append, A.len h1, B.len h2]
  frame := fun h hw => by
    obtain ⟨xs, ys, F1, F2, e, h1, h2, k1, k2, k3⟩ := h
    exact ⟨xs, ys, F1, F2, e, A.frame h1 fun a ha => hw a (k1 a ha), B.frame h2 fun a ha => hw a (k2 a ha), k1, k2, k3⟩
  weak := fun h => by
    obtain ⟨xs, ys, F1, F2, e, h1, h2, k1, k2, _⟩ := h
    exact ⟨xs, ys, F1, F2, e, A.weak h1, B.weak h2, k1, k2, fun h => by cases h⟩
  mono := fun h hg => by
    obtain ⟨xs, ys, F1, F2, e, h1, h2, k1, k2, k3⟩ := h
    exact ⟨xs, ys, F1, F2, e, h1, h2, fun a ha => hg a (k1 a ha), fun a ha => hg a (k2 a ha), k3⟩
  tight := fun h => by
    obtain ⟨xs, ys, F1, F2, e, h1, h2, k1, k2, k3⟩ := h
    exact ⟨xs, ys, _, _, e, A.tight h1, B.tight h2, fun a ha => ⟨k1 a ha.1, ha.2⟩, fun a ha => ⟨k2 a ha.1, ha.2⟩, fun hs a h1 h2 => k3 hs a h1.1 h2.1⟩
/-- A row of such data. -/
def RowRd {α : Type} (E : Rep α) (s : Bool) (w : World) (v : Value) (l : List α) (F : Addr → Prop) : Prop :=
  ∃ A cap, ∃ Fk : Nat → Addr → Prop, v = .slice A l.length cap ∧ (l.length ≤ 9223372036854775807 ∧ (A = none → cap = 0)) ∧ ∀ k x, l[k]? = some x → ∃ g off xs, A = some ⟨g, off, none⟩ ∧ E.rd s w xs x (Fk k) ∧ (∀ a, Fk k a → F a) ∧
    (∀ j u, xs[j]? = some u → w.cell? ⟨g, off + k * E.size + j, none⟩ = some u ∧ F ⟨g, off + k * E.size + j, none⟩ ∧ (s = true → w.frozen? ⟨g, off + k * E.size + j, none⟩ = false)) ∧
    (s = true → (∀ i, i < l.length * E.size → ¬ Fk k ⟨g, off + i, none⟩) ∧ ∀ k', k' < l.length → k' ≠ k → ∀ a, Fk k a → ¬ Fk k' a)
def labRow {α : Type} (E : Rep α) : Nat → List α → List α
  | _, [] => []
  | k, x :: l => E.lab k x :: labRow E (k + E.cnt x) l
def cntRow {α : Type} (E : Rep α) (l : List α) : Nat := (l.map E.cnt).sum
def szRow {α : Type} (E : Rep α) (l : List α) : Nat := l.length + (l.map E.sz).sum
def Rep.row {α : Type} (E : Rep α) : Rep (List α) where
  size := 1
  rd := fun s w vs l F => ∃ v, vs = [v] ∧ RowRd E s w v l F
  lab := labRow E
  labv := labRow E
  cnt := cntRow E
  cntv := cntRow E
  sz := szRow E
  len := fun h => by obtain ⟨v, rfl, _⟩ := h; rfl
  frame := fun h hw => by
    obtain ⟨v, e, A, cap, Fk, hv, hl, hr⟩ := h
    refine ⟨v, e, A, cap, Fk, hv, hl, fun k x hk => ?_⟩
    obtain ⟨g, off, xs, ha, h1, h2, h3, h4⟩ := hr k x hk
    refine ⟨g, off, xs, ha, E.frame h1 fun a ha => hw a (h2 a ha), h2, fun j u hj => ?_, h4⟩
    obtain ⟨q1, q2, q3⟩ := h3 j u hj
    obtain ⟨p1, p2⟩ := hw _ q2
    exact ⟨p1.trans q1, q2, fun hs => p2.trans (q3 hs)⟩
  weak := fun h => by
    obtain ⟨v, e, A, cap, Fk, hv, hl, hr⟩ := h
    refine ⟨v, e, A, cap, Fk, hv, hl, fun k x hk => ?_⟩
    obtain ⟨g, off, xs, ha, h1, h2, h3, h4⟩ := hr k x hk
    exact ⟨g, off, xs, ha, E.weak h1, h2, fun j u hj => ⟨(h3 j u hj).1, (h3 j u hj).2.1, fun hs => by cases hs⟩, fun hs => by cases hs⟩
  mono := fun h hg => by
    obtain ⟨v, e, A, cap, Fk, hv, hl, hr⟩ := h
    refine ⟨v, e, A, cap, Fk, hv, hl, fun k x hk => ?_⟩
    obtain ⟨g, off, xs, ha, h1, h2, h3, h4⟩ := hr k x hk
    exact ⟨g, off, xs, ha, h1, fun a ha => hg a (h2 a ha), fun j u hj => ⟨(h3 j u hj).1, hg _ (h3 j u hj).2.1, (h3 j u hj).2.2⟩, h4⟩
  tight := fun {s w vs l F} h => by
    obtain ⟨v, e, A, cap, Fk, hv, hl, hr⟩ := h
    refine ⟨v, e, A, cap, fun k a => Fk k a ∧ a.block < w.heap.size, hv, hl, fun k x hk => ?_⟩
    obtain ⟨g, off, xs, ha, h1, h2, h3, h4⟩ := hr k x hk
    exact ⟨g, off, xs, ha, E.tight h1, fun a ha => ⟨h2 a ha.1, ha.2⟩, fun j u hj => ⟨(h3 j u hj).1, ⟨(h3 j u hj).2.1, block_lt_of_cell (h3 j u hj).1⟩, (h3 j u hj).2.2⟩,
      fun hs => ⟨fun i hi h => (h4 hs).1 i hi h.1, fun k' hk' hne a h1 h2 => (h4 hs).2 k' hk' hne a h1.1 h2.1⟩⟩
/-- The same data under a name of its own. -/
def Rep.map {α β : Type} (E : Rep α) (f : β → α) (g : α → β) : Rep β where
  size := E.size
  rd := fun s w vs x F => E.rd s w vs (f x) F
  lab := fun k x => g (E.lab k (f x))
  labv := fun k x => g (E.labv k (f x))
  cnt := fun x => E.cnt (f x)
  cntv := fun x => E.cntv (f x)
  sz := fun x => E.sz (f x)
  len := fun h => E.len h
  frame := fun h hw => E.frame h hw
  weak := fun h => E.weak h
  mono := fun h hg => E.mono h hg
  tight := fun h => E.tight h
/-- What is kept where nothing that was there is written. -/
theorem Rep.kept {α : Type} (E : Rep α) {s : Bool} {w w' : World} {vs : List Value} {x : α} {F : Addr → Prop} (h : E.rd s w vs x F) (hb : Below w.heap.size w w') : E.rd s w' vs x F :=
  E.mono (E.frame (E.tight h) fun a ha => ⟨hb.cell ha.2, hb.frozen ha.2⟩) fun _ ha => ha.1
section
variable {α : Type} {E : Rep α} {s : Bool} {w w' : World} {v : Value} {l : List α} {F G : Addr → Prop}
theorem RowRd.frame (h : RowRd E s w v l F) (hw : ∀ a, F a → w'.cell? a = w.cell? a ∧ w'.frozen? a = w.frozen? a) : RowRd E s w' v l F := by
  obtain ⟨v', e, hr⟩ := (Rep.row E).frame (vs := [v]) ⟨v, rfl, h⟩ hw
  cases e; exact hr
theorem RowRd.weak (h : RowRd E s w v l F) : RowRd E false w v l F := by
  obtain ⟨v', e, hr⟩ := (Rep.row E).weak (vs := [v]) ⟨v, rfl, h⟩
  cases e; exact hr
theorem RowRd.mono (h : RowRd E s w v l F) (hg : ∀ a, F a → G a) : RowRd E s w v l G := by
  obtain ⟨v', e, hr⟩ := (Rep.row E).mono (vs := [v]) ⟨v, rfl, h⟩ hg
  cases e; exact hr
theorem RowRd.tight (h : RowRd E s w v l F) : RowRd E s w v l (fun a => F a ∧ a.block < w.heap.size) := by
  obtain ⟨v', e, hr⟩ := (Rep.row E).tight (vs := [v]) ⟨v, rfl, h⟩
  cases e; exact hr
theorem RowRd.kept (h : RowRd E s w v l F) (hb : Below w.heap.size w w') : RowRd E s w' v l F := by
  obtain ⟨v', e, hr⟩ := (Rep.row E).kept (vs := [v]) ⟨v, rfl, h⟩ hb
  cases e; exact hr
theorem RowRd.nil (s : Bool) (w : World) (F : Addr → Prop) : RowRd E s w (.slice none 0 0) [] F := ⟨none, 0, fun _ _ => False, rfl, by simp, fun k x hk => by simp at hk⟩
theorem RowRd.max (h : RowRd E s w v l F) : l.length ≤ 9223372036854775807 := by
  obtain ⟨_, _, _, _, hm, _⟩ := h; exact hm.1
theorem RowRd.nil_cap {n cap : Nat} (h : RowRd E s w (.slice none n cap) l F) : n = 0 ∧ cap = 0 ∧ l = [] := by
  obtain ⟨A, cap', _, hv, hm, hr⟩ := h
  cases hv
  refine ⟨?_, hm.2 rfl, ?_⟩
  · rcases Nat.eq_zero_or_pos l.length with h | h
    · exact h
    · obtain ⟨g, off, xs, ha, _⟩ := hr 0 _ (List.getElem?_eq_getElem h)
      cases ha
  · rcases l with _ | ⟨x, l⟩
    · rfl
    · obtain ⟨g, off, xs, ha, _⟩ := hr 0 x rfl
      cases ha
theorem RowRd.form (h : RowRd E s w v l F) : ∃ A cap, v = .slice A l.length cap := by
  obtain ⟨A, cap, _, hv, _⟩ := h; exact ⟨A, cap, hv⟩
/-- A place of a row is read. -/
theorem RowRd.get {A : Option Addr} {n cap : Nat} (h : RowRd E s w (.slice A n cap) l F) {k : Nat} {x : α} (hk : l[k]? = some x) :
    ∃ g off xs Fk, A = some ⟨g, off, none⟩ ∧ xs.length = E.size ∧ E.rd s w xs x Fk ∧ (∀ a, Fk a → F a) ∧ (∀ j u, xs[j]? = some u → w.cell? ⟨g, off + k * E.size + j, none⟩ = some u) := by
  obtain ⟨A', cap', Fk, hv, _, hr⟩ := h
  cases hv
  obtain ⟨g, off, xs, ha, h1, h2, h3, _⟩ := hr k x hk
  exact ⟨g, off, xs, Fk k, ha, E.len h1, h1, h2, fun j u hj => (h3 j u hj).1⟩
/-- A place of a row is taken out, to be written and put back. -/
theorem RowRd.take {A : Option Addr} {n cap : Nat} (h : RowRd E true w (.slice A n cap) l F) {k : Nat} {x : α} (hk : l[k]? = some x) :
    ∃ g off xs Fk, A = some ⟨g, off, none⟩ ∧ xs.length = E.size ∧ E.rd true w xs x Fk ∧ (∀ a, Fk a → F a) ∧
      (∀ j u, xs[j]? = some u → w.cell? ⟨g, off + k * E.size + j, none⟩ = some u ∧ w.frozen? ⟨g, off + k * E.size + j, none⟩ = false ∧ F ⟨g, off + k * E.size + j, none⟩ ∧ ¬ Fk ⟨g, off + k * E.size + j, none⟩) ∧
      ∀ (w' : World) (xs' : List Value) (x' : α) (F' : Addr → Prop), E.rd true w' xs' x' F' → (∀ a, F' a → Fk a ∨ ¬ F a) →
        (∀ j u, xs'[j]? = some u → w'.cell? ⟨g, off + k * E.size + j, none⟩ = some u) → (∀ j, j < E.size → w'.frozen? ⟨g, off + k * E.size + j, none⟩ = false) →
        (∀ a, F a → ¬ Fk a → (∀ j, j < E.size → a ≠ ⟨g, off + k * E.size + j, none⟩) → w'.cell? a = w.cell? a ∧ w'.frozen? a = w.frozen? a) →
        RowRd E true w' (.slice A n cap) (l.set k x') (fun a => F a ∨ F' a) := by
  obtain ⟨A', cap', Fk, hv, hmx, hr⟩ := h
  cases hv
  have hkl : k < l.length := (List.getElem?_eq_some_iff.1 hk).1
  obtain ⟨g, off, xs, ha, h1, h2, h3, h4⟩ := hr k x hk
  obtain ⟨h5, h6⟩ := h4 rfl
  have hlx := E.len h1
  have hin : ∀ j, j < E.size → k * E.size + j < l.length * E.size := fun j hj => by
    have : (k + 1) * E.size ≤ l.length * E.size := Nat.mul_le_mul_right _ hkl
    rw [Nat.succ_mul] at this
    omega
  refine ⟨g, off, xs, Fk k, ha, hlx, h1, h2, fun j u hj => ?_, ?_⟩
  · obtain ⟨q1, q2, q3⟩ := h3 j u hj
    have hj' : j < E.size := by rw [← hlx]; exact (List.getElem?_eq_some_iff.1 hj).1
    exact ⟨q1, q3 rfl, q2, by rw [Nat.add_assoc]; exact h5 _ (hin j hj')⟩
  intro w' xs' x' F' r1 r2 r3 r4 r5
  have hlx' := E.len r1
  refine ⟨A, cap, fun i => if i = k then F' else Fk i, by rw [List.length_set], by rw [List.length_set]; exact hmx, fun i y hi => ?_⟩
  by_cases hik : i = k
  · subst hik
    rw [List.getElem?_set_self hkl] at hi
    cases hi
    refine ⟨g, off, xs', ha, by simpa using r1, fun a h => by simp at h; exact Or.inr h, fun j u hj => ?_, fun _ => ⟨fun q hq => ?_, fun k' hk' hne a hf => ?_⟩⟩
    · have hj' : j < E.size := by rw [← hlx']; exact (List.getElem?_eq_some_iff.1 hj).1
      have hjx : ∃ u0, xs[j]? = some u0 := ⟨_, List.getElem?_eq_getElem (by omega)⟩
      obtain ⟨u0, hu0⟩ := hjx
      exact ⟨r3 j u hj, Or.inl (h3 j u0 hu0).2.1, fun _ => r4 j hj'⟩
    · rw [List.length_set] at hq
      simp only [if_true]
      intro hf
      rcases r2 _ hf with hf | hf
      · exact h5 q hq hf
      · -- a cell of the row lies within F
        apply hf
        have hs : 0 < E.size := by
          rcases Nat.eq_zero_or_pos E.size with h0 | h0
          · rw [h0] at hq; omega
          · exact h0
        have hq1 : q / E.size < l.length := Nat.div_lt_of_lt_mul (by rw [Nat.mul_comm]; exact hq)
        obtain ⟨g2, off2, xs2, ha2, p1, _, p3, _⟩ := hr (q / E.size) _ (List.getElem?_eq_getElem hq1)
        rw [ha] at ha2
        cases ha2
        have hq2 : q % E.size < xs2.length := by rw [E.len p1]; exact Nat.mod_lt _ hs
        have := (p3 (q % E.size) _ (List.getElem?_eq_getElem hq2)).2.1
        rwa [Nat.add_assoc, Nat.mul_comm (q / E.size), Nat.div_add_mod] at this
    · simp only [if_true] at hf
      simp only [if_neg hne]
      rw [List.length_set] at hk'
      obtain ⟨_, _, _, _, _, p2, _, _⟩ := hr k' _ (List.getElem?_eq_getElem hk')
      rcases r2 a hf with hf | hf
      · exact h6 k' hk' hne a hf
      · exact fun h => hf (p2 a h)
  · rw [List.getElem?_set_ne (Ne.symm hik)] at hi
    have hil : i < l.length := (List.getElem?_eq_some_iff.1 hi).1
    obtain ⟨g2, off2, xs2, ha2, p1, p2, p3, p4⟩ := hr i y hi
    rw [ha] at ha2
    cases ha2
    obtain ⟨p5, p6⟩ := p4 rfl
    have hl2 := E.len p1
    have keep : ∀ a, F a → ¬ Fk k a → (∀ j, j < E.size → a ≠ ⟨g, off + k * E.size + j, none⟩) → w'.cell? a = w.cell? a ∧ w'.frozen? a = w.frozen? a := r5
    refine ⟨g, off, xs2, ha, ?_, fun a h => Or.inl (p2 a (by simpa [hik] using h)), fun j u hj => ?_, fun _ => ⟨fun q hq => ?_, fun k' hk' hne a hf => ?_⟩⟩
    · simp only [if_neg hik]
      refine E.frame p1 fun a ha => keep a (p2 a ha) (p6 k hkl (Ne.symm hik) a ha) fun j hj e => ?_
      subst e
      exact p5 _ (hin j hj) (by rw [← Nat.add_assoc]; exact ha)
    · obtain ⟨q1, q2, q3⟩ := p3 j u hj
      have hj' : j < E.size := by rw [← hl2]; exact (List.getElem?_eq_some_iff.1 hj).1
      have hn5 : ¬ Fk k ⟨g, off + i * E.size + j, none⟩ := by
        have hlt : i * E.size + j < l.length * E.size := by
          have : (i + 1) * E.size ≤ l.length * E.size := Nat.mul_le_mul_right _ hil
          rw [Nat.succ_mul] at this
          omega
        rw [Nat.add_assoc]; exact h5 _ hlt
      have hdf : ∀ j', j' < E.size → (⟨g, off + i * E.size + j, none⟩ : Addr) ≠ ⟨g, off + k * E.size + j', none⟩ := fun j' hj2 e => by
        have e2 : off + i * E.size + j = off + k * E.size + j' := by injection e
        rcases Nat.lt_or_gt_of_ne hik with h | h
        · have : (i + 1) * E.size ≤ k * E.size := Nat.mul_le_mul_right _ h
          rw [Nat.succ_mul] at this
          omega
        · have : (k + 1) * E.size ≤ i * E.size := Nat.mul_le_mul_right _ h
          rw [Nat.succ_mul] at this
          omega
      obtain ⟨c1, c2⟩ := keep _ q2 hn5 hdf
      exact ⟨c1.trans q1, Or.inl q2, fun hs => c2.trans (q3 hs)⟩
    · rw [List.length_set] at hq
      simp only [if_neg hik]
      exact p5 q hq
    · rw [List.length_set] at hk'
      simp only [if_neg hik] at hf
      by_cases hk2 : k' = k
      · simp only [if_pos hk2]
        intro hf'
        rcases r2 a hf' with h | h
        · exact p6 k hkl (Ne.symm hik) a hf h
        · exact h (p2 a hf)
      · simp only [if_neg hk2]
        exact p6 k' hk' hne a hf
/-- A row that a call has laid, of elements that lead nowhere. -/
theorem RowRd.of_flat {base : Nat} {e : TypeId} {cells : List Value} (hown : w.ownsRow base e E.size v l.length cells) (hm : l.length ≤ 9223372036854775807)
    (he : ∀ k x, l[k]? = some x → ∃ ys, (∀ j u, ys[j]? = some u → cells[k * E.size + j]? = some u) ∧ E.rd true w ys x (fun _ => False)) :
    RowRd E true w v l (fun a => base ≤ a.block ∧ a.block < w.heap.size) := by
  have hh := hown
  rcases hown.2 with ⟨rfl, h0⟩ | ⟨g, cap, cur, rfl, hb, hg, _⟩
  · have : l = [] := List.eq_nil_of_length_eq_zero h0
    subst this
    exact RowRd.nil _ _ _
  · refine ⟨some ⟨g, 0, none⟩, cap, fun _ _ => False, rfl, ⟨hm, fun h => by cases h⟩, fun k x hk => ?_⟩
    obtain ⟨ys, h1, h2⟩ := he k x hk
    have hlt := (Array.getElem?_eq_some_iff.1 hg).1
    refine ⟨g, 0, ys, rfl, h2, fun _ h => h.elim, fun j u hj => ?_, fun _ => ⟨fun _ _ h => h, fun _ _ _ _ h => h.elim⟩⟩
    have hkl : k < l.length := (List.getElem?_eq_some_iff.1 hk).1
    have hjs : j < E.size := by rw [← E.len h2]; exact (List.getElem?_eq_some_iff.1 hj).1
    have hin : k * E.size + j < l.length * E.size := by
      have : (k + 1) * E.size ≤ l.length * E.size := Nat.mul_le_mul_right _ hkl
      rw [Nat.succ_mul] at this
      omega
    rw [Nat.zero_add]
    exact ⟨(hh.cellAt _ hin).trans (h1 j u hj), ⟨hb, hlt⟩, fun _ => hh.frozenAt _⟩
end
theorem cs_same {w : World} {a : Addr} {u v : Value} (h : w.cell? a = some u) : (w.setCell a v).cell? a = some v := World.cell?_setCell_same w a v h
theorem cs_other {w : World} {a b : Addr} {v : Value} (h : a ≠ b) : (w.setCell a v).cell? b = w.cell? b := World.cell?_setCell_other w a b v h
theorem cs_frozen {w : World} {a b : Addr} {v : Value} : (w.setCell a v).frozen? b = w.frozen? b := World.frozen?_setCell w a b v
/-- Nothing but what lies within F has turned. -/
structure Unch (F : Addr → Prop) (w w' : World) : Prop where
  size : w.heap.size ≤ w'.heap.size
  same : ∀ a, a.block < w.heap.size → ¬ F a → w'.cell? a = w.cell? a ∧ w'.frozen? a = w.frozen? a
theorem Unch.refl (F : Addr → Prop) (w : World) : Unch F w w := ⟨Nat.le_refl _, fun _ _ _ => ⟨rfl, rfl⟩⟩
theorem Unch.trans {F : Addr → Prop} {a b c : World} (h : Unch F a b) (k : Unch F b c) : Unch F a c :=
  ⟨Nat.le_trans h.size k.size, fun p hp hf => ⟨(k.same p (Nat.lt_of_lt_of_le hp h.size) hf).1.trans (h.same p hp hf).1, (k.same p (Nat.lt_of_lt_of_le hp h.size) hf).2.trans (h.same p hp hf).2⟩⟩
theorem Unch.mono {F G : Addr → Prop} {a b : World} (h : Unch F a b) (hg : ∀ p, F p → G p) : Unch G a b := ⟨h.size, fun p hp hf => h.same p hp fun hh => hf (hg p hh)⟩
theorem Unch.set {F : Addr → Prop} {w : World} {p : Addr} (hp : F p) (u : Value) : Unch F w (w.setCell p u) :=
  ⟨by simp [World.setCell], fun a _ hf => ⟨cs_other fun e => hf (e ▸ hp), cs_frozen⟩⟩
theorem Unch.below {F : Addr → Prop} {w w' : World} (h : Below w.heap.size w w') : Unch F w w' := ⟨h.size, fun _ hp _ => ⟨h.cell hp, h.frozen hp⟩⟩
/-- What lies elsewhere is kept. -/
theorem Rep.apart {α : Type} (E : Rep α) {s : Bool} {w w' : World} {vs : List Value} {x : α} {F G : Addr → Prop} (h : E.rd s w vs x G) (hu : Unch F w w') (hd : ∀ a, G a → ¬ F a) : E.rd s w' vs x G :=
  E.mono (E.frame (E.tight h) fun a ha => hu.same a ha.2 (hd a ha.1)) fun _ ha => ha.1
theorem RowRd.apart {α : Type} {E : Rep α} {s : Bool} {w w' : World} {v : Value} {l : List α} {F G : Addr → Prop} (h : RowRd E s w v l G) (hu : Unch F w w') (hd : ∀ a, G a → ¬ F a) : RowRd E s w' v l G := by
  obtain ⟨v', e, hr⟩ := (Rep.row E).apart (vs := [v]) ⟨v, rfl, h⟩ hu hd
  cases e; exact hr
/-- An element that is being written: its cells as they are, all else of the row as it was. -/
structure ElSt (F Fk : Addr → Prop) (g o n : Nat) (w0 w : World) (xs : List Value) : Prop where
  len : xs.length = n
  cells : ∀ j u, xs[j]? = some u → w.cell? ⟨g, o + j, none⟩ = some u
  free : ∀ j, j < n → w.frozen? ⟨g, o + j, none⟩ = false
  rest : ∀ a, F a → ¬ Fk a → (∀ j, j < n → a ≠ ⟨g, o + j, none⟩) → w.cell? a = w0.cell? a ∧ w.frozen? a = w0.frozen? a
theorem ElSt.cell {F Fk : Addr → Prop} {g o n : Nat} {w0 w : World} {xs : List Value} (h : ElSt F Fk g o n w0 w xs) (j : Nat) {u : Value} (hj : xs[j]? = some u) : w.cell? ⟨g, o + j, none⟩ = some u := h.cells j u hj
/-- A store into one of its cells. -/
theorem ElSt.set {F Fk : Addr → Prop} {g o n : Nat} {w0 w : World} {xs : List Value} (h : ElSt F Fk g o n w0 w xs) (j : Nat) (hj : j < n) (u : Value) : ElSt F Fk g o n w0 (w.setCell ⟨g, o + j, none⟩ u) (xs.set j u) where
  len := by rw [List.length_set]; exact h.len
  cells := fun i v hi => by
    by_cases hij : i = j
    · subst hij
      rw [List.getElem?_set_self (by rw [h.len]; exact hj)] at hi
      cases hi
      exact cs_same (h.cells i _ (List.getElem?_eq_getElem (by rw [h.len]; exact hj)))
    · rw [List.getElem?_set_ne (Ne.symm hij)] at hi
      rw [cs_other (by intro e; injection e with _ e2 _; omega)]
      exact h.cells i v hi
  free := fun i hi => cs_frozen.trans (h.free i hi)
  rest := fun a ha hk hne => by
    obtain ⟨h1, h2⟩ := h.rest a ha hk hne
    exact ⟨(cs_other (fun e => hne j hj e.symm)).trans h1, cs_frozen.trans h2⟩
/-- A call that writes within Fk alone. -/
theorem ElSt.call {F Fk : Addr → Prop} {g o n : Nat} {w0 w w' : World} {xs : List Value} (h : ElSt F Fk g o n w0 w xs) (hu : Unch Fk w w') (hc : ∀ j, j < n → ¬ Fk ⟨g, o + j, none⟩) (hb : ∀ a, F a → a.block < w.heap.size) : ElSt F Fk g o n w0 w' xs where
  len := h.len
  cells := fun j u hj => by
    have hjn : j < n := by rw [← h.len]; exact (List.getElem?_eq_some_iff.1 hj).1
    have := h.cells j u hj
    exact (hu.same _ (block_lt_of_cell this) (hc j hjn)).1.trans this
  free := fun j hj => by
    have hx : ∃ u, xs[j]? = some u := ⟨_, List.getElem?_eq_getElem (by rw [h.len]; exact hj)⟩
    obtain ⟨u, hu'⟩ := hx
    exact (hu.same _ (block_lt_of_cell (h.cells j u hu')) (hc j hj)).2.trans (h.free j hj)
  rest := fun a ha hk hne => by
    obtain ⟨h1, h2⟩ := h.rest a ha hk hne
    obtain ⟨h3, h4⟩ := hu.same a (hb a ha) hk
    exact ⟨h3.trans h1, h4.trans h2⟩
/-- To write an element of a row: take it out; its cells are written; put it back. -/
theorem RowRd.open {α : Type} {E : Rep α} {w : World} {A : Option Addr} {n cap : Nat} {l : List α} {F : Addr → Prop} (h : RowRd E true w (.slice A n cap) l F) {k : Nat} {x : α} (hk : l[k]? = some x) :
    ∃ g off xs Fk, A = some ⟨g, off, none⟩ ∧ E.rd true w xs x Fk ∧ ElSt F Fk g (off + k * E.size) E.size w w xs ∧ (∀ a, Fk a → F a) ∧ (∀ j, j < E.size → F ⟨g, off + k * E.size + j, none⟩ ∧ ¬ Fk ⟨g, off + k * E.size + j, none⟩) ∧
      ∀ (w' : World) (xs' : List Value) (x' : α) (F' : Addr → Prop), ElSt F Fk g (off + k * E.size) E.size w w' xs' → E.rd true w' xs' x' F' → (∀ a, F' a → Fk a ∨ ¬ F a) → RowRd E true w' (.slice A n cap) (l.set k x') (fun a => F a ∨ F' a) := by
  obtain ⟨g, off, xs, Fk, ha, hl, h1, h2, h3, h4⟩ := h.take hk
  have hx : ∀ j, j < E.size → ∃ u, xs[j]? = some u := fun j hj => ⟨_, List.getElem?_eq_getElem (by omega)⟩
  refine ⟨g, off, xs, Fk, ha, h1, ⟨hl, fun j u hj => (h3 j u hj).1, fun j hj => ?_, fun _ _ _ _ => ⟨rfl, rfl⟩⟩, h2, fun j hj => ?_, fun w' xs' x' F' he hr hf => h4 w' xs' x' F' hr hf he.cells he.free he.rest⟩
  · obtain ⟨u, hu⟩ := hx j hj; exact (h3 j u hu).2.1
  · obtain ⟨u, hu⟩ := hx j hj; exact (h3 j u hu).2.2
/-- Marks, element by element. -/
def cntTo {α : Type} (E : Rep α) (l : List α) (i : Nat) : Nat := cntRow E (l.take i)
def labTo {α : Type} (E : Rep α) (k : Nat) (l : List α) (i : Nat) : List α := labRow E k (l.take i) ++ l.drop i
section
variable {α : Type} (E : Rep α)
theorem labRow_len : ∀ (l : List α) (k : Nat), (labRow E k l).length = l.length
  | [], _ => rfl
  | x :: l, k => by simp [labRow, labRow_len l]
theorem labRow_append : ∀ (l m : List α) (k : Nat), labRow E k (l ++ m) = labRow E k l ++ labRow E (k + cntRow E l) m
  | [], m, k => by simp [labRow, cntRow]
  | x :: l, m, k => by simp [labRow, labRow_append l m, cntRow, Nat.add_assoc]
theorem cntTo_step (l : List α) (i : Nat) {x : α} (h : l[i]? = some x) : cntTo E l (i + 1) = cntTo E l i + E.cnt x := by
  unfold cntTo cntRow
  rw [List.take_add_one, h, List.map_append, List.sum_append]
  simp
theorem cntTo_all (l : List α) : cntTo E l l.length = cntRow E l := by unfold cntTo; rw [List.take_length]
theorem cntTo_le (l : List α) : ∀ i, cntTo E l i ≤ cntRow E l := fun i => by
  have h := List.take_append_drop i l
  have : cntRow E l = cntRow E (l.take i) + cntRow E (l.drop i) := by
    conv => lhs; rw [← h]
    unfold cntRow
    rw [List.map_append, List.sum_append]
  unfold cntTo; omega
theorem labTo_zero (k : Nat) (l : List α) : labTo E k l 0 = l := by simp [labTo, labRow]
theorem labTo_all (k : Nat) (l : List α) : labTo E k l l.length = labRow E k l := by simp [labTo]
theorem labTo_len (k : Nat) (l : List α) (i : Nat) : (labTo E k l i).length = l.length := by
  unfold labTo
  rw [List.length_append, labRow_len, List.length_take, List.length_drop]
  omega
theorem labTo_at (k : Nat) (l : List α) (i : Nat) {x : α} (h : l[i]? = some x) : (labTo E k l i)[i]? = some x := by
  have hi : i < l.length := (List.getElem?_eq_some_iff.1 h).1
  unfold labTo
  rw [List.getElem?_append_right (by rw [labRow_len, List.length_take]; omega), labRow_len, List.length_take, List.getElem?_drop, show i + (i - min i l.length) = i by omega]
  exact h
theorem labTo_step (k : Nat) (l : List α) (i : Nat) {x : α} (h : l[i]? = some x) : (labTo E k l i).set i (E.lab (k + cntTo E l i) x) = labTo E k l (i + 1) := by
  have hi : i < l.length := (List.getElem?_eq_some_iff.1 h).1
  have hx : l[i] = x := by rw [List.getElem?_eq_getElem hi] at h; exact Option.some.inj h
  unfold labTo
  rw [List.take_add_one, h, labRow_append, List.drop_eq_getElem_cons hi, List.set_append_right _ _ (by rw [labRow_len, List.length_take]; omega), labRow_len, List.length_take, show i - min i l.length = 0 by omega, List.set_cons_zero]
  simp [labRow, cntTo]
theorem labRow_at (k : Nat) (l : List α) (i : Nat) {x : α} (h : l[i]? = some x) : (labRow E k l)[i]? = some (E.lab (k + cntTo E l i) x) := by
  have hi : i < l.length := (List.getElem?_eq_some_iff.1 h).1
  have e := List.take_append_drop i l
  have hx : l[i] = x := by rw [List.getElem?_eq_getElem hi] at h; exact Option.some.inj h
  conv => lhs; rw [← e]
  rw [labRow_append, List.getElem?_append_right (by rw [labRow_len, List.length_take]; omega), labRow_len, List.length_take, show i - min i l.length = 0 by omega, List.drop_eq_getElem_cons hi, hx]
  simp [labRow, cntTo]
end
theorem box1 (w : World) (a b : Obj) : ((w.alloc a).alloc b).heap[w.heap.size]? = some a := by
  rw [Below.heap_alloc _ _ _ (by simp)]; exact heap_alloc_new _ _
theorem box2 (w : World) (a b : Obj) : ((w.alloc a).alloc b).heap[w.heap.size + 1]? = some b := by
  have := heap_alloc_new (w.alloc a) b
  rwa [World.size_alloc] at this
theorem cell_in {w : World} {g : Nat} {cs : Array Value} {t : TypeId} (h : w.heap[g]? = some (.cells cs t (0, 0))) (j : Nat) {u : Value} (hu : cs[j]? = some u) : w.cell? ⟨g, j, none⟩ = some u := by
  simp [World.cell?, h, hu]
/-- It answers with a row of its own that holds these data. -/
def OwnPost {α : Type} (E : Rep α) (l : List α) (w : World) (e : Ending) (w' : World) : Prop := ∃ u, e = .returned u ∧ RowRd E true w' u l (fun a => w.heap.size ≤ a.block) ∧ Below w.heap.size w w'
theorem szRow_len {α : Type} (E : Rep α) (l : List α) : l.length ≤ szRow E l := by unfold szRow; omega
theorem szRow_at {α : Type} (E : Rep α) : ∀ (l : List α) (k : Nat) {x : α}, l[k]? = some x → E.sz x ≤ szRow E l
  | [], k, x, h => by simp at h
  | y :: l, 0, x, h => by simp at h; subst h; simp [szRow]; omega
  | y :: l, k + 1, x, h => by
    have := szRow_at E l k (by simpa using h)
    simp [szRow] at this ⊢
    omega
/-- The first k of a row copied, the others still zero. -/
def cpTo {α : Type} (z : α) (l : List α) (k : Nat) : List α := l.take k ++ List.replicate (l.length - k) z
theorem cpTo_zero {α : Type} (z : α) (l : List α) : cpTo z l 0 = List.replicate l.length z := by simp [cpTo]
theorem cpTo_all {α : Type} (z : α) (l : List α) : cpTo z l l.length = l := by simp [cpTo]
theorem cpTo_at {α : Type} (z : α) (l : List α) (k : Nat) (h : k < l.length) : (cpTo z l k)[k]? = some z := by
  unfold cpTo
  rw [List.getElem?_append_right (by rw [List.length_take]; omega), List.length_take, show k - min k l.length = 0 by omega, List.getElem?_replicate, if_pos (by omega)]
theorem cpTo_step {α : Type} (z : α) (l : List α) (k : Nat) {x : α} (h : l[k]? = some x) : (cpTo z l k).set k x = cpTo z l (k + 1) := by
  have hk : k < l.length := (List.getElem?_eq_some_iff.1 h).1
  unfold cpTo
  rw [List.set_append_right _ _ (by rw [List.length_take]; omega), List.length_take, show k - min k l.length = 0 by omega, show l.length - k = (l.length - (k + 1)) + 1 by omega, List.replicate_succ, List.set_cons_zero, List.take_add_one, h, List.append_assoc]
  rfl
theorem made_at (zs : Array Value) (N i : Nat) (h : i < N) (hz : 0 < zs.size) : (madeCells zs N).toList[i]? = zs[i % zs.size]? := by
  have hm : i % zs.size < zs.size := Nat.mod_lt _ hz
  simp [madeCells, h]
  rw [getElem?_pos zs (i % zs.size) hm]
  simp [hm]
/-- A block that holds just these cells. -/
def InC (w : World) (g : Nat) (cs : Array Value) (t : TypeId) : Prop := w.heap[g]? = some (.cells cs t (0, 0))
theorem InC.cell {w : World} {g : Nat} {cs : Array Value} {t : TypeId} (h : InC w g cs t) (j : Nat) {u : Value} (hu : cs[j]? = some u) : w.cell? ⟨g, j, none⟩ = some u := cell_in h j hu
theorem InC.free {w : World} {g : Nat} {cs : Array Value} {t : TypeId} (h : InC w g cs t) (j : Nat) : w.frozen? ⟨g, j, none⟩ = false := frozen_of_row w g j _ _ h
theorem InC.kept {w w' : World} {g : Nat} {cs : Array Value} {t : TypeId} (h : InC w g cs t) (hb : Below w.heap.size w w') : InC w' g cs t := (hb.block g (Array.getElem?_eq_some_iff.1 h).1).trans h
theorem InC.other {w : World} {g : Nat} {cs : Array Value} {t : TypeId} (h : InC w g cs t) {p : Addr} (hp : g ≠ p.block) (u : Value) : InC (w.setCell p u) g cs t := (Below.heap_setCell w p u g hp).trans h
theorem InC.lt {w : World} {g : Nat} {cs : Array Value} {t : TypeId} (h : InC w g cs t) : g < w.heap.size := (Array.getElem?_eq_some_iff.1 h).1
theorem szRow_flat {α : Type} (E : Rep α) (h : ∀ x, E.sz x = 0) (l : List α) : szRow E l = l.length := by
  have : (l.map E.sz).sum = 0 := by
    induction l with
    | nil => rfl
    | cons x l ih => rw [List.map_cons, List.sum_cons, h, ih]
  unfold szRow; omega
theorem RowRd.zero {α : Type} {E : Rep α} (s : Bool) (w : World) (A : Addr) (cap : Nat) (F : Addr → Prop) : RowRd E s w (.slice (some A) 0 cap) ([] : List α) F := ⟨some A, cap, fun _ _ => False, rfl, by simp, fun k x hk => by simp at hk⟩
/-- Rows of numbers that a call has laid. -/
def cellsN (l : List Int) : List Value := l.map (Value.int .i64)
theorem cellsN_len (l : List Int) : (cellsN l).length = l.length := by simp [cellsN]
theorem cellsN_at (l : List Int) (k : Nat) {z : Int} (h : l[k]? = some z) : (cellsN l)[k]? = some (.int .i64 z) := by simp [cellsN, h]
theorem cellsN_set (l : List Int) (k : Nat) (z : Int) : (cellsN l).set k (.int .i64 z) = cellsN (l.set k z) := by simp [cellsN, List.map_set]
theorem cellsN_rep (n : Nat) (z : Int) : cellsN (List.replicate n z) = List.replicate n (.int .i64 z) := by simp [cellsN]
theorem cellsN_append (a b : List Int) : cellsN (a ++ b) = cellsN a ++ cellsN b := by simp [cellsN]
theorem RowRd.of_ints {w : World} {base : Nat} {v : Value} {l : List Int} (h : w.ownsRow base 3 1 v l.length (cellsN l)) (hm : l.length ≤ 9223372036854775807) (hz : ∀ z ∈ l, I64 z) : RowRd Rep.int true w v l (fun a => base ≤ a.block) :=
  (RowRd.of_flat (E := Rep.int) h hm fun k x hk => ⟨[.int .i64 x], fun j u hj => by
    match j, hj with
    | 0, hj =>
      simp at hj
      subst hj
      rw [show Rep.int.size = 1 from rfl, Nat.mul_one, Nat.add_zero]
      exact cellsN_at l k hk, rfl, hz x (List.mem_of_getElem? hk)⟩).mono fun a h => h.1
theorem RowRd.of_inC {w : World} {B : Nat} {l : List Int} (h : InC w B (cellsN l).toArray 3) (hm : l.length ≤ maxLen) (hz : ∀ z ∈ l, I64 z) {base : Nat} (hb : base ≤ B) : RowRd Rep.int true w (.slice (some ⟨B, 0, none⟩) l.length l.length) l (fun a => base ≤ a.block) :=
  RowRd.of_ints ⟨by rw [cellsN_len, Nat.mul_one], Or.inr ⟨B, l.length, _, rfl, hb, h, Nat.le_refl _, hm, by simp [cellsN], by simp [cellsN, List.take_of_length_le]⟩⟩ (by unfold maxLen at hm; omega) hz
theorem below_step {a W c : World} (h1 : Below a.heap.size a W) (h2 : Below W.heap.size W c) : Below a.heap.size a c := h1.trans (h2.mono h1.size)
theorem rowrd_agg {α : Type} {E : Rep α} {s : Bool} {w w' : World} {v : Value} {l : List α} {F : Addr → Prop} (h : RowRd E s w v l F) (hb : Below w.heap.size w w') : RowRd E s w' v l F := h.kept hb
theorem cntRow_int (l : List Int) : cntRow Rep.int l = l.length := by
  induction l with
  | nil => rfl
  | cons x l ih => unfold cntRow at *; rw [List.map_cons, List.sum_cons, ih, List.length_cons, show Rep.int.cnt x = 1 from rfl]; omega
theorem InC.keptB {w w' : World} {g B : Nat} {cs : Array Value} {t : TypeId} (h : InC w g cs t) (hb : Below B w w') (hg : g < B) : InC w' g cs t := (hb.block g hg).trans h
end Go.Proofs.Ytlkhknoaifbajaa

/- The struct Link: its data in cells. -/
namespace Go.Proofs.Ytlkhknoaifbajaa
set_option maxRecDepth 100000
open Go.RowKit
set_option linter.unusedVariables false
set_option linter.unusedSimpArgs false

structure DLink where
  In : UInt8
  Out : UInt8
deriving DecidableEq
def rLink : Rep DLink := Rep.map (Rep.pair Rep.byte Rep.byte) (fun x => (x.In, x.Out)) (fun p => ⟨p.1, p.2⟩)
theorem rLink_size : rLink.size = 2 := rfl
def zLink : DLink := ⟨0, 0⟩
theorem rLink_rd {s : Bool} {w : World} {vs : List Value} {x : DLink} {F : Addr → Prop} (h : rLink.rd s w vs x F) : vs = [.int .u8 (x.In.toNat : Int), .int .u8 (x.Out.toNat : Int)] := by
  obtain ⟨a0, b0, F0, G0, rfl, h0, h1, k0, l0, d0⟩ := h
  have e0 : a0 = [.int .u8 (x.In.toNat : Int)] := h0
  subst e0
  have e1 : b0 = [.int .u8 (x.Out.toNat : Int)] := h1
  subst e1
  exact rfl
theorem rLink_mk {s : Bool} {w : World} {x : DLink} {F : Addr → Prop} : rLink.rd s w [.int .u8 (x.In.toNat : Int), .int .u8 (x.Out.toNat : Int)] x F := by
  exact ⟨[.int .u8 (x.In.toNat : Int)], [.int .u8 (x.Out.toNat : Int)], fun _ => False, fun _ => False, rfl, rfl, rfl, fun _ h => h.elim, fun _ h => h.elim, fun _ _ h _ => h.elim⟩
theorem rLink_lab (k : Nat) (x : DLink) : rLink.lab k x = ⟨UInt8.ofNat (k), UInt8.ofNat (k + 1)⟩ := rfl
theorem rLink_cnt (x : DLink) : rLink.cnt x = 1 + (1) := rfl
theorem rLink_sz (x : DLink) : rLink.sz x = 0 + (0) := rfl
end Go.Proofs.Ytlkhknoaifbajaa

/- The struct Candidate: its data in cells. -/
namespace Go.Proofs.Ytlkhknoaifbajaa
set_option maxRecDepth 100000
open Go.RowKit
set_option linter.unusedVariables false
set_option linter.unusedSimpArgs false

structure DCandidate where
  Links : (List DLink)
deriving DecidableEq
def rCandidate : Rep DCandidate := Rep.map (Rep.row rLink) (fun x => x.Links) (fun p => ⟨p⟩)
theorem rCandidate_size : rCandidate.size = 1 := rfl
def zCandidate : DCandidate := ⟨[]⟩
theorem rCandidate_rd {s : Bool} {w : World} {vs : List Value} {x : DCandidate} {F : Addr → Prop} (h : rCandidate.rd s w vs x F) : ∃ v0, vs = [v0] ∧ RowRd rLink s w v0 x.Links F := by
  have h0 := h
  obtain ⟨v0, rfl, q0⟩ := h0
  exact ⟨v0, rfl, q0⟩
theorem rCandidate_mk {s : Bool} {w : World} {x : DCandidate} {F : Addr → Prop} {v0 : Value} (p0 : RowRd rLink s w v0 x.Links F) : rCandidate.rd s w [v0] x F := by
  exact ⟨v0, rfl, p0⟩
theorem rCandidate_lab (k : Nat) (x : DCandidate) : rCandidate.lab k x = ⟨labRow rLink (k) x.Links⟩ := rfl
theorem rCandidate_cnt (x : DCandidate) : rCandidate.cnt x = cntRow rLink x.Links := rfl
theorem rCandidate_sz (x : DCandidate) : rCandidate.sz x = szRow rLink x.Links := rfl
end Go.Proofs.Ytlkhknoaifbajaa

/- Candidates: plain mathematics: valid links, both sides, edits, the text, and how a text is read back. -/
namespace Go.Proofs.Ytlkhknoaifbajaa
set_option maxRecDepth 100000
open Go.RowKit M
set_option linter.unusedVariables false
set_option linter.unusedSimpArgs false

theorem u8_zero (b : UInt8) : ((b.toNat : Int) = 0) ↔ b = 0 := by
  constructor
  · intro h; apply UInt8.toNat_inj.1; simp; omega
  · rintro rfl; rfl
theorem u8_eq (a b : UInt8) : ((a.toNat : Int) = (b.toNat : Int)) ↔ a = b := by
  constructor
  · intro h; apply UInt8.toNat_inj.1; omega
  · rintro rfl; rfl
theorem byt_u8 (b : UInt8) : byt (b.toNat : Int) = b := by
  apply UInt8.toNat_inj.1
  have := b.toNat_lt
  have := byt_toNat (b.toNat : Int) (by omega) (by omega)
  omega
theorem u8_in (b : UInt8) : 0 ≤ (b.toNat : Int) ∧ (b.toNat : Int) < 256 := ⟨by omega, by have := b.toNat_lt; omega⟩
/-- Whether a link with these sides is one that a candidate may have. -/
def okI (a b : Int) : Bool := if a = 0 then isSnd b else if b = 0 ∨ b = a then isSnd a else isObs a && decide (b = swapV a)
/-- The same as the model asks it. -/
def okM (a b : Int) : Bool := !((!decide (a = 0) && !isSnd a) || (!decide (b = 0) && !isSnd b) || (decide (a = 0) && decide (b = 0))) && !(!decide (a = 0) && !decide (b = 0) && !decide (a = b) && !(isObs a && decide (swapV a = b)))
theorem isSnd_zero : isSnd 0 = false := by decide
theorem isObs_cases (a : Int) : isObs a = true → a = 112 ∨ a = 116 ∨ a = 98 ∨ a = 100 := by
  unfold isObs; simp; omega
theorem okM_eq (a b : Int) : okM a b = okI a b := by
  unfold okM okI
  by_cases ha : a = 0
  · subst ha
    by_cases hb : b = 0
    · subst hb; simp [isSnd_zero]
    · simp [hb]
  · by_cases hb : b = 0
    · subst hb; simp [ha, isSnd_zero]
    · by_cases hab : b = a
      · subst hab; simp [ha]
      · have hab' : ¬ a = b := fun h => hab h.symm
        cases ho : isObs a with
        | false => simp [ha, hb, hab, hab']
        | true =>
          by_cases hs : swapV a = b
          · subst hs
            rcases isObs_cases a ho with rfl | rfl | rfl | rfl <;> decide
          · have hs' : ¬ b = swapV a := fun h => hs h.symm
            simp [ha, hb, hab, hab', hs, hs']
def okL (x : DLink) : Bool := okI (x.In.toNat : Int) (x.Out.toNat : Int)
/-- The sounds In, the sounds Out. -/
def inL (l : List DLink) : List UInt8 := (l.map (·.In)).filter (fun b => !decide (b = 0))
def outL (l : List DLink) : List UInt8 := (l.map (·.Out)).filter (fun b => !decide (b = 0))
def edits (l : List DLink) : Nat := (l.filter fun x => !decide (x.In = x.Out)).length
def isCd (l : List DLink) : Bool := l.all okL && (decide ((l.length : Int) ≤ 16) && (isFm ⟨(inL l).toArray⟩ && isFm ⟨(outL l).toArray⟩))
theorem take_next {α : Type} {l : List α} {k : Nat} {x : α} (h : l[k]? = some x) : l.take (k + 1) = l.take k ++ [x] := by
  rw [List.take_add_one, h]; rfl
theorem inL_yes {l : List DLink} {k : Nat} {x : DLink} (h : l[k]? = some x) (hx : ¬ (x.In.toNat : Int) = 0) : inL (l.take (k + 1)) = inL (l.take k) ++ [byt (x.In.toNat : Int)] := by
  have h0 : ¬ x.In = 0 := fun e => hx ((u8_zero _).2 e)
  rw [byt_u8, take_next h]; unfold inL
  simp [h0]
theorem inL_no {l : List DLink} {k : Nat} {x : DLink} (h : l[k]? = some x) (hx : (x.In.toNat : Int) = 0) : inL (l.take (k + 1)) = inL (l.take k) := by
  have h0 : x.In = 0 := (u8_zero _).1 hx
  rw [take_next h]; unfold inL
  simp [h0]
theorem outL_yes {l : List DLink} {k : Nat} {x : DLink} (h : l[k]? = some x) (hx : ¬ (x.Out.toNat : Int) = 0) : outL (l.take (k + 1)) = outL (l.take k) ++ [byt (x.Out.toNat : Int)] := by
  have h0 : ¬ x.Out = 0 := fun e => hx ((u8_zero _).2 e)
  rw [byt_u8, take_next h]; unfold outL
  simp [h0]
theorem outL_no {l : List DLink} {k : Nat} {x : DLink} (h : l[k]? = some x) (hx : (x.Out.toNat : Int) = 0) : outL (l.take (k + 1)) = outL (l.take k) := by
  have h0 : x.Out = 0 := (u8_zero _).1 hx
  rw [take_next h]; unfold outL
  simp [h0]
theorem inL_len (l : List DLink) (k : Nat) : (inL (l.take k)).length ≤ k := by
  unfold inL
  refine Nat.le_trans (List.length_filter_le _ _) ?_
  simp; omega
theorem outL_len (l : List DLink) (k : Nat) : (outL (l.take k)).length ≤ k := by
  unfold outL
  refine Nat.le_trans (List.length_filter_le _ _) ?_
  simp; omega
theorem inL_len_all (l : List DLink) : (inL l).length ≤ l.length := by
  have := inL_len l l.length; rwa [List.take_length] at this
theorem outL_len_all (l : List DLink) : (outL l).length ≤ l.length := by
  have := outL_len l l.length; rwa [List.take_length] at this
theorem edits_yes {l : List DLink} {k : Nat} {x : DLink} (h : l[k]? = some x) (hx : ¬ (x.In.toNat : Int) = (x.Out.toNat : Int)) : edits (l.take (k + 1)) = edits (l.take k) + 1 := by
  have h0 : ¬ x.In = x.Out := fun e => hx ((u8_eq _ _).2 e)
  rw [take_next h]; unfold edits
  rw [List.filter_append]
  simp [h0]
theorem edits_no {l : List DLink} {k : Nat} {x : DLink} (h : l[k]? = some x) (hx : (x.In.toNat : Int) = (x.Out.toNat : Int)) : edits (l.take (k + 1)) = edits (l.take k) := by
  have h0 : x.In = x.Out := (u8_eq _ _).1 hx
  rw [take_next h]; unfold edits
  rw [List.filter_append]
  simp [h0]
theorem edits_len (l : List DLink) (k : Nat) : edits (l.take k) ≤ k := by
  unfold edits
  refine Nat.le_trans (List.length_filter_le _ _) ?_
  simp; omega
theorem isCd_not {l : List DLink} {k : Nat} {x : DLink} (h : l[k]? = some x) (hx : okI (x.In.toNat : Int) (x.Out.toNat : Int) = false) : isCd l = false := by
  unfold isCd
  have : l.all okL = false := by
    rw [List.all_eq_false]
    exact ⟨x, List.mem_of_getElem? h, by unfold okL; rw [hx]; simp⟩
  rw [this, Bool.false_and]
theorem isCd_long {l : List DLink} (h : 16 < l.length) : isCd l = false := by
  unfold isCd
  have : decide ((l.length : Int) ≤ 16) = false := by simp; omega
  rw [this, Bool.false_and, Bool.and_false]
theorem all_ok {l : List DLink} (h : ∀ k x, l[k]? = some x → k < l.length → okI (x.In.toNat : Int) (x.Out.toNat : Int) = true) : l.all okL = true := by
  rw [List.all_eq_true]
  intro x hx
  obtain ⟨k, hk, rfl⟩ := List.getElem_of_mem hx
  exact h k _ (List.getElem?_eq_getElem hk) hk
theorem isCd_len {l : List DLink} (h : isCd l = true) : l.length ≤ 16 := by
  unfold isCd at h; simp at h; omega
theorem isCd_ok {l : List DLink} (h : isCd l = true) {x : DLink} (hx : x ∈ l) : okL x = true := by
  unfold isCd at h
  rw [Bool.and_eq_true] at h
  exact List.all_eq_true.1 h.1 x hx
theorem isCd_nil : isCd [] = true := by decide
/-- The text of a link, of a candidate. -/
def ftK (x : DLink) : List UInt8 := if x.In = x.Out then [x.In] else if x.In = 0 then [43, x.Out] else if x.Out = 0 then [45, x.In] else [42, x.In]
def ftC (l : List DLink) : List UInt8 := l.flatMap ftK
def noneB : List UInt8 := [110, 111, 110, 101]
def fmtC (l : List DLink) : List UInt8 := if isCd l then (if l = [] then noneB else ftC l) else []
theorem ftK_pos (x : DLink) : ftK x ≠ [] := by
  unfold ftK; split <;> (try split) <;> (try split) <;> simp
theorem ftK_len (x : DLink) : (ftK x).length ≤ 2 := by
  unfold ftK; split <;> (try split) <;> (try split) <;> simp
theorem ftC_step {l : List DLink} {k : Nat} {x : DLink} (h : l[k]? = some x) : ftC (l.take (k + 1)) = ftC (l.take k) ++ ftK x := by
  rw [take_next h]; unfold ftC
  rw [List.flatMap_append]; simp
theorem ftC_len (l : List DLink) : (ftC l).length ≤ 2 * l.length := by
  induction l with
  | nil => simp [ftC]
  | cons x l ih =>
    have h1 := ftK_len x
    unfold ftC at *
    rw [List.flatMap_cons, List.length_append, List.length_cons]
    omega
theorem ftC_len_take (l : List DLink) (k : Nat) : (ftC (l.take k)).length ≤ 2 * k := by
  have := ftC_len (l.take k)
  rw [List.length_take] at this
  omega
theorem ftC_nil {l : List DLink} : ftC l = [] ↔ l = [] := by
  constructor
  · intro h
    cases l with
    | nil => rfl
    | cons x l =>
      unfold ftC at h
      rw [List.flatMap_cons, List.append_eq_nil_iff] at h
      exact absurd h.1 (ftK_pos x)
  · rintro rfl; rfl
theorem ft_same {x : DLink} (h : (x.In.toNat : Int) = (x.Out.toNat : Int)) : ftK x = [byt (x.In.toNat : Int)] := by
  rw [byt_u8]; unfold ftK; rw [if_pos ((u8_eq _ _).1 h)]
theorem ft_put {x : DLink} (h : ¬ (x.In.toNat : Int) = (x.Out.toNat : Int)) (h0 : (x.In.toNat : Int) = 0) : ftK x = [43, byt (x.Out.toNat : Int)] := by
  rw [byt_u8]; unfold ftK; rw [if_neg (fun e => h ((u8_eq _ _).2 e)), if_pos ((u8_zero _).1 h0)]
theorem ft_away {x : DLink} (h : ¬ (x.In.toNat : Int) = 0) (h0 : (x.Out.toNat : Int) = 0) : ftK x = [45, byt (x.In.toNat : Int)] := by
  rw [byt_u8]; unfold ftK; rw [if_neg (fun e => h (by rw [e]; exact h0)), if_neg (fun e => h ((u8_zero _).2 e)), if_pos ((u8_zero _).1 h0)]
theorem ft_voice {x : DLink} (h : ¬ (x.In.toNat : Int) = (x.Out.toNat : Int)) (h1 : ¬ (x.In.toNat : Int) = 0) (h2 : ¬ (x.Out.toNat : Int) = 0) : ftK x = [42, byt (x.In.toNat : Int)] := by
  rw [byt_u8]; unfold ftK; rw [if_neg (fun e => h ((u8_eq _ _).2 e)), if_neg (fun e => h1 ((u8_zero _).2 e)), if_neg (fun e => h2 ((u8_zero _).2 e))]
theorem ok_put {x : DLink} (h : okL x = true) (h0 : (x.In.toNat : Int) = 0) : ¬ (x.In.toNat : Int) = (x.Out.toNat : Int) := by
  intro e
  unfold okL okI at h
  rw [if_pos h0, ← e, h0] at h
  exact absurd h (by decide)
/-- The link that a sign makes of a sound. -/
def edL (b k : UInt8) : DLink := if k = 43 then ⟨0, b⟩ else if k = 45 then ⟨b, 0⟩ else if k = 42 then ⟨b, byt (swapV (b.toNat : Int))⟩ else ⟨b, b⟩
/-- Reading as the program does: a sign, and what is read so far. -/
def rdK (st : UInt8 × List DLink) (b : UInt8) : UInt8 × List DLink := if isSnd (b.toNat : Int) then (0, st.2 ++ [edL b st.1]) else (b, st.2)
def rdT (s : List UInt8) : UInt8 × List DLink := s.foldl rdK (0, [])
theorem ftK_rd {x : DLink} (h : okL x = true) (acc : List DLink) : (ftK x).foldl rdK (0, acc) = (0, acc ++ [x]) := by
  obtain ⟨a, b⟩ := x
  unfold okL okI at h
  unfold ftK
  simp only at h ⊢
  by_cases hab : a = b
  · subst hab
    rw [if_pos rfl]
    have hs : isSnd (a.toNat : Int) = true := by
      by_cases h0 : (a.toNat : Int) = 0
      · rwa [if_pos h0] at h
      · rwa [if_neg h0, if_pos (Or.inr rfl)] at h
    simp [rdK, hs, edL]
  · rw [if_neg hab]
    by_cases h0 : a = 0
    · subst h0
      rw [if_pos rfl]
      rw [if_pos (by rfl)] at h
      have e1 : isSnd ((43 : UInt8).toNat : Int) = false := by decide
      simp only [List.foldl_cons, List.foldl_nil, rdK, e1, h]
      simp [edL]
    · have h0' : ¬ (a.toNat : Int) = 0 := fun e => h0 ((u8_zero _).1 e)
      rw [if_neg h0, if_neg h0'] at *
      by_cases hb : b = 0
      · subst hb
        have hz : (((0 : UInt8).toNat : Nat) : Int) = 0 := rfl
        rw [if_pos rfl]
        rw [if_pos (Or.inl hz)] at h
        have e1 : isSnd ((45 : UInt8).toNat : Int) = false := by decide
        simp only [List.foldl_cons, List.foldl_nil, rdK, e1, h]
        simp [edL]
      · have hb' : ¬ (b.toNat : Int) = 0 := fun e => hb ((u8_zero _).1 e)
        have hab' : ¬ (b.toNat : Int) = (a.toNat : Int) := fun e => hab ((u8_eq _ _).1 e).symm
        rw [if_neg hb]
        rw [if_neg (by rintro (e | e); exact hb' e; exact hab' e), Bool.and_eq_true] at h
        have hsw : (b.toNat : Int) = swapV (a.toNat : Int) := by simpa using h.2
        have hs : isSnd (a.toNat : Int) = true := by
          rcases isObs_cases _ h.1 with e | e | e | e <;> rw [e] <;> decide
        have e1 : isSnd ((42 : UInt8).toNat : Int) = false := by decide
        simp only [List.foldl_cons, List.foldl_nil, rdK, e1, hs]
        simp [edL, ← hsw, byt_u8]
theorem ftC_rd {l : List DLink} (h : ∀ x ∈ l, okL x = true) (acc : List DLink) : (ftC l).foldl rdK (0, acc) = (0, acc ++ l) := by
  induction l generalizing acc with
  | nil => simp [ftC]
  | cons x l ih =>
    have : ftC (x :: l) = ftK x ++ ftC l := by unfold ftC; rw [List.flatMap_cons]
    rw [this, List.foldl_append, ftK_rd (h x (by simp)), ih (fun y hy => h y (by simp [hy]))]
    simp
theorem rdT_step (s : List UInt8) (k : Nat) {b : UInt8} (h : s[k]? = some b) : rdT (s.take (k + 1)) = rdK (rdT (s.take k)) b := by
  rw [take_next h]; unfold rdT; rw [List.foldl_append]; rfl
theorem rdK_len (st : UInt8 × List DLink) (b : UInt8) : st.2.length ≤ (rdK st b).2.length := by
  unfold rdK; split <;> simp
theorem fold_len (s : List UInt8) : ∀ st : UInt8 × List DLink, st.2.length ≤ (s.foldl rdK st).2.length := by
  induction s with
  | nil => intro st; simp
  | cons b s ih => intro st; exact Nat.le_trans (rdK_len st b) (ih _)
theorem rdT_len (s : List UInt8) (k : Nat) : (rdT (s.take k)).2.length ≤ (rdT s).2.length := by
  have : rdT s = (s.drop k).foldl rdK (rdT (s.take k)) := by
    unfold rdT; rw [← List.foldl_append, List.take_append_drop]
  rw [this]; exact fold_len _ _
/-- Reading as the model does. -/
def rdM : List UInt8 → Option (List DLink)
  | [] => some []
  | [k] => if k = 43 ∨ k = 45 ∨ k = 42 then none else some [⟨k, k⟩]
  | k :: b :: t => if k = 43 ∨ k = 45 ∨ k = 42 then (rdM t).map (edL b k :: ·) else (rdM (b :: t)).map ((⟨k, k⟩ : DLink) :: ·)
theorem rdM_plain {k : UInt8} (h : ¬ (k = 43 ∨ k = 45 ∨ k = 42)) (t : List UInt8) : rdM (k :: t) = (rdM t).map ((⟨k, k⟩ : DLink) :: ·) := by
  cases t with
  | nil => simp [rdM, h]
  | cons b t => rw [rdM, if_neg h]
theorem rdM_sign {k : UInt8} (h : k = 43 ∨ k = 45 ∨ k = 42) (b : UInt8) (t : List UInt8) : rdM (k :: b :: t) = (rdM t).map (edL b k :: ·) := by
  rw [rdM, if_pos h]
theorem rdM_end {k : UInt8} (h : k = 43 ∨ k = 45 ∨ k = 42) : rdM [k] = none := by
  rw [rdM, if_pos h]
theorem snd_sign {b : UInt8} (h : isSnd (b.toNat : Int) = true) : ¬ (b = 43 ∨ b = 45 ∨ b = 42) := by
  rintro (rfl | rfl | rfl) <;> exact absurd h (by decide)
theorem ftK_rdM {x : DLink} (h : okL x = true) (t : List UInt8) : rdM (ftK x ++ t) = (rdM t).map (x :: ·) := by
  obtain ⟨a, b⟩ := x
  unfold okL okI at h
  unfold ftK
  simp only at h ⊢
  by_cases hab : a = b
  · subst hab
    rw [if_pos rfl]
    have hs : isSnd (a.toNat : Int) = true := by
      by_cases h0 : (a.toNat : Int) = 0
      · rwa [if_pos h0] at h
      · rwa [if_neg h0, if_pos (Or.inr rfl)] at h
    exact rdM_plain (snd_sign hs) t
  · rw [if_neg hab]
    by_cases h0 : a = 0
    · subst h0
      rw [if_pos rfl]
      exact rdM_sign (by simp) b t
    · have h0' : ¬ (a.toNat : Int) = 0 := fun e => h0 ((u8_zero _).1 e)
      rw [if_neg h0, if_neg h0'] at *
      by_cases hb : b = 0
      · subst hb
        rw [if_pos rfl]
        have := rdM_sign (k := 45) (by simp) a t
        simpa [edL] using this
      · have hb' : ¬ (b.toNat : Int) = 0 := fun e => hb ((u8_zero _).1 e)
        have hab' : ¬ (b.toNat : Int) = (a.toNat : Int) := fun e => hab ((u8_eq _ _).1 e).symm
        rw [if_neg hb]
        rw [if_neg (by rintro (e | e); exact hb' e; exact hab' e), Bool.and_eq_true] at h
        have hsw : (b.toNat : Int) = swapV (a.toNat : Int) := by simpa using h.2
        have := rdM_sign (k := 42) (by simp) a t
        simpa [edL, ← hsw, byt_u8] using this
theorem ftC_rdM {l : List DLink} (h : ∀ x ∈ l, okL x = true) : rdM (ftC l) = some l := by
  induction l with
  | nil => rfl
  | cons x l ih =>
    have : ftC (x :: l) = ftK x ++ ftC l := by unfold ftC; rw [List.flatMap_cons]
    rw [this, ftK_rdM (h x (by simp)), ih (fun y hy => h y (by simp [hy]))]
    rfl
/-- What is read back, by both. -/
def prP (s : List UInt8) : Option (List DLink) := if s = noneB then some [] else if (rdT s).2.length ≤ 16 ∧ fmtC (rdT s).2 = s then some (rdT s).2 else none
def prM (s : List UInt8) : Option (List DLink) := if s = noneB then some [] else (rdM s).bind fun l => if fmtC l = s ∧ s ≠ [] then some l else none
theorem fmt_full {l : List DLink} {s : List UInt8} (hn : s ≠ noneB) (hs : s ≠ []) (h : fmtC l = s) : isCd l = true ∧ ftC l = s := by
  unfold fmtC at h
  cases hc : isCd l with
  | false => rw [hc] at h; exact absurd h.symm hs
  | true =>
    rw [hc, if_pos rfl] at h
    by_cases hl : l = []
    · rw [if_pos hl] at h; exact absurd h.symm hn
    · rw [if_neg hl] at h; exact ⟨rfl, h⟩
theorem fmt_back {l : List DLink} {s : List UInt8} (hs : s ≠ []) (hc : isCd l = true) (h : ftC l = s) : fmtC l = s := by
  unfold fmtC
  have hl : ¬ l = [] := fun e => hs (by rw [← h]; exact ftC_nil.2 e)
  rw [hc, if_pos rfl, if_neg hl, h]
theorem prP_iff {s : List UInt8} (hn : s ≠ noneB) (l : List DLink) : prP s = some l ↔ (s ≠ [] ∧ isCd l = true ∧ ftC l = s) := by
  unfold prP
  rw [if_neg hn]
  constructor
  · intro h
    split at h
    · rename_i hh
      cases h
      have hs : s ≠ [] := by
        rintro rfl
        exact absurd hh.2 (by decide)
      exact ⟨hs, fmt_full hn hs hh.2⟩
    · cases h
  · rintro ⟨hs, hc, hf⟩
    have hr : rdT s = (0, l) := by
      rw [← hf]; unfold rdT
      rw [ftC_rd (fun x hx => isCd_ok hc hx)]; rfl
    rw [hr]
    simp only
    rw [if_pos ⟨isCd_len hc, fmt_back hs hc hf⟩]
theorem prM_iff {s : List UInt8} (hn : s ≠ noneB) (l : List DLink) : prM s = some l ↔ (s ≠ [] ∧ isCd l = true ∧ ftC l = s) := by
  unfold prM
  rw [if_neg hn]
  constructor
  · intro h
    rw [Option.bind_eq_some_iff] at h
    obtain ⟨m, hm, h⟩ := h
    split at h
    · rename_i hh
      cases h
      exact ⟨hh.2, fmt_full hn hh.2 hh.1⟩
    · cases h
  · rintro ⟨hs, hc, hf⟩
    have hr : rdM s = some l := by rw [← hf]; exact ftC_rdM (fun x hx => isCd_ok hc hx)
    rw [hr, Option.bind_some, if_pos ⟨fmt_back hs hc hf, hs⟩]
theorem prM_eq (s : List UInt8) : prM s = prP s := by
  by_cases hn : s = noneB
  · unfold prM prP; rw [if_pos hn, if_pos hn]
  · cases h : prP s with
    | some l => exact (prM_iff hn l).2 ((prP_iff hn l).1 h)
    | none =>
      cases h2 : prM s with
      | none => rfl
      | some l => rw [(prP_iff hn l).2 ((prM_iff hn l).1 h2)] at h; cases h
/-- The links of a form that is kept as it is. -/
def faith (s : List UInt8) : List DLink := s.map fun b => ⟨b, b⟩
def faC (s : ByteArray) : List DLink := if isFm s then faith s.data.toList else []
end Go.Proofs.Ytlkhknoaifbajaa

/- The generator: plain mathematics: all that is generated, that each should be, that all are different, and how many there are. -/
namespace Go.Proofs.Ytlkhknoaifbajaa
set_option maxRecDepth 100000
open Go.RowKit M
set_option linter.unusedVariables false
set_option linter.unusedSimpArgs false

/-- The links that may stand for a sound, by their number of edits; those that put a sound in. -/
def voL (b : UInt8) : DLink := ⟨b, byt (swapV (b.toNat : Int))⟩
def gen0 : List UInt8 → List (List DLink)
  | [] => [[]]
  | b :: t => (gen0 t).map (⟨b, b⟩ :: ·)
def insL (p : List (List DLink)) : List (List DLink) := p.map ((⟨0, 116⟩ : DLink) :: ·) ++ p.map ((⟨0, 105⟩ : DLink) :: ·)
def voiceL (b : UInt8) (p : List (List DLink)) : List (List DLink) := if isObs (b.toNat : Int) then p.map (voL b :: ·) else []
def genS (p : List UInt8 → List (List DLink)) : List UInt8 → List (List DLink)
  | [] => [] :: insL (p [])
  | b :: t => (genS p t).map (⟨b, b⟩ :: ·) ++ ((p t).map (⟨b, 0⟩ :: ·) ++ (voiceL b (p t) ++ insL (p (b :: t))))
def genL : Nat → List UInt8 → List (List DLink)
  | 0 => gen0
  | n + 1 => genS (genL n)
/-- A link that may be generated. -/
def okG (x : DLink) : Prop := (x.In = 0 → x.Out = 116 ∨ x.Out = 105) ∧ (¬ x.In = 0 → x.Out = x.In ∨ x.Out = 0 ∨ isObs (x.In.toNat : Int) = true ∧ x.Out = byt (swapV (x.In.toNat : Int)))
theorem inL_cons (x : DLink) (l : List DLink) : inL (x :: l) = (if x.In = 0 then [] else [x.In]) ++ inL l := by
  unfold inL
  rw [List.map_cons, List.filter_cons]
  by_cases h : x.In = 0 <;> simp [h]
theorem outL_cons (x : DLink) (l : List DLink) : outL (x :: l) = (if x.Out = 0 then [] else [x.Out]) ++ outL l := by
  unfold outL
  rw [List.map_cons, List.filter_cons]
  by_cases h : x.Out = 0 <;> simp [h]
theorem edits_cons (x : DLink) (l : List DLink) : edits (x :: l) = (if x.In = x.Out then 0 else 1) + edits l := by
  unfold edits
  rw [List.filter_cons]
  by_cases h : x.In = x.Out
  · simp [h]
  · simp [h]; omega
theorem snd_pos {b : UInt8} (h : isSnd (b.toNat : Int) = true) : ¬ b = 0 := by
  rintro rfl; exact absurd h (by decide)
theorem obs_snd {x : Int} (h : isObs x = true) : isSnd x = true := by
  rcases isObs_cases x h with rfl | rfl | rfl | rfl <;> decide
theorem swap_ne {x : Int} (h : isObs x = true) : swapV x ≠ x ∧ swapV x ≠ 0 ∧ 0 ≤ swapV x ∧ swapV x < 256 ∧ isSnd (swapV x) = true := by
  rcases isObs_cases x h with rfl | rfl | rfl | rfl <;> decide
theorem voL_ne {b : UInt8} (h : isObs (b.toNat : Int) = true) : ¬ (voL b).Out = b ∧ ¬ (voL b).Out = 0 := by
  obtain ⟨h1, h2, h3, h4, _⟩ := swap_ne h
  have e := byt_toNat _ h3 h4
  constructor
  · intro h0
    apply h1
    rw [← e]
    exact congrArg (fun z : UInt8 => (z.toNat : Int)) h0
  · intro h0
    apply h2
    rw [← e]
    exact congrArg (fun z : UInt8 => (z.toNat : Int)) h0
theorem mem_map_cons {x : DLink} {l : List DLink} {p : List (List DLink)} : l ∈ p.map (x :: ·) ↔ ∃ m, m ∈ p ∧ l = x :: m := by
  rw [List.mem_map]
  constructor
  · rintro ⟨m, h, rfl⟩; exact ⟨m, h, rfl⟩
  · rintro ⟨m, h, rfl⟩; exact ⟨m, h, rfl⟩
theorem mem_insL {l : List DLink} {p : List (List DLink)} : l ∈ insL p ↔ ∃ b m, (b = 116 ∨ b = 105) ∧ m ∈ p ∧ l = (⟨0, b⟩ : DLink) :: m := by
  unfold insL
  rw [List.mem_append, mem_map_cons, mem_map_cons]
  constructor
  · rintro (⟨m, h, rfl⟩ | ⟨m, h, rfl⟩)
    · exact ⟨116, m, Or.inl rfl, h, rfl⟩
    · exact ⟨105, m, Or.inr rfl, h, rfl⟩
  · rintro ⟨b, m, rfl | rfl, h, rfl⟩
    · exact Or.inl ⟨m, h, rfl⟩
    · exact Or.inr ⟨m, h, rfl⟩
theorem mem_voiceL {b : UInt8} {l : List DLink} {p : List (List DLink)} : l ∈ voiceL b p ↔ isObs (b.toNat : Int) = true ∧ ∃ m, m ∈ p ∧ l = voL b :: m := by
  unfold voiceL
  split
  · rename_i h; rw [mem_map_cons]; exact ⟨fun k => ⟨h, k⟩, fun k => k.2⟩
  · rename_i h; simp [h]
def isG (n : Nat) (s : List UInt8) (l : List DLink) : Prop := (∀ x ∈ l, okG x) ∧ inL l = s ∧ edits l ≤ n
theorem isG_nil (n : Nat) : isG n [] [] := ⟨fun x h => by simp at h, rfl, by simp [edits]⟩
theorem isG_keep {n : Nat} {s : List UInt8} {l : List DLink} {b : UInt8} (hb : ¬ b = 0) : isG n (b :: s) ((⟨b, b⟩ : DLink) :: l) ↔ isG n s l := by
  unfold isG
  rw [inL_cons, edits_cons, if_neg hb, if_pos rfl]
  constructor
  · rintro ⟨h1, h2, h3⟩
    exact ⟨fun x hx => h1 x (by simp [hx]), by simpa using h2, by omega⟩
  · rintro ⟨h1, h2, h3⟩
    refine ⟨fun x hx => ?_, by simp [h2], by omega⟩
    rcases List.mem_cons.1 hx with rfl | hx
    · exact ⟨fun h => absurd h hb, fun _ => Or.inl rfl⟩
    · exact h1 x hx
theorem isG_edit {n : Nat} {s : List UInt8} {l : List DLink} {b c : UInt8} (hb : ¬ b = 0) (hc : ¬ b = c) (hok : okG ⟨b, c⟩) : isG (n + 1) (b :: s) ((⟨b, c⟩ : DLink) :: l) ↔ isG n s l := by
  unfold isG
  rw [inL_cons, edits_cons, if_neg hb, if_neg hc]
  constructor
  · rintro ⟨h1, h2, h3⟩
    exact ⟨fun x hx => h1 x (by simp [hx]), by simpa using h2, by omega⟩
  · rintro ⟨h1, h2, h3⟩
    refine ⟨fun x hx => ?_, by simp [h2], by omega⟩
    rcases List.mem_cons.1 hx with rfl | hx
    · exact hok
    · exact h1 x hx
theorem isG_ins {n : Nat} {s : List UInt8} {l : List DLink} {c : UInt8} (hc : c = 116 ∨ c = 105) : isG (n + 1) s ((⟨0, c⟩ : DLink) :: l) ↔ isG n s l := by
  have h0 : ¬ (0 : UInt8) = c := by rcases hc with rfl | rfl <;> decide
  unfold isG
  rw [inL_cons, edits_cons, if_pos rfl, if_neg h0]
  constructor
  · rintro ⟨h1, h2, h3⟩
    exact ⟨fun x hx => h1 x (by simp [hx]), by simpa using h2, by omega⟩
  · rintro ⟨h1, h2, h3⟩
    refine ⟨fun x hx => ?_, by simp [h2], by omega⟩
    rcases List.mem_cons.1 hx with rfl | hx
    · exact ⟨fun _ => hc, fun h => absurd rfl h⟩
    · exact h1 x hx
/-- A list that may be generated begins in one of these ways. -/
theorem isG_cases {n : Nat} {s : List UInt8} {x : DLink} {l : List DLink} (hs : ∀ b ∈ s, ¬ b = 0) (h : isG n s (x :: l)) :
    (∃ b t, s = b :: t ∧ x = ⟨b, b⟩) ∨ (∃ m, n = m + 1 ∧ ((∃ b t, s = b :: t ∧ (x = ⟨b, 0⟩ ∨ isObs (b.toNat : Int) = true ∧ x = voL b)) ∨ ∃ c, (c = 116 ∨ c = 105) ∧ x = ⟨0, c⟩)) := by
  obtain ⟨h1, h2, h3⟩ := h
  have hx := h1 x (by simp)
  rw [inL_cons] at h2
  rw [edits_cons] at h3
  obtain ⟨a, c⟩ := x
  by_cases ha : a = 0
  · subst ha
    have hc := hx.1 rfl
    right
    have hne : ¬ (0 : UInt8) = c := by rcases hc with h | h <;> (simp only at h; subst h; decide)
    rw [if_neg hne] at h3
    exact ⟨n - 1, by omega, Or.inr ⟨c, hc, rfl⟩⟩
  · simp only [if_neg ha] at h2
    obtain ⟨t, rfl⟩ : ∃ t, s = a :: t := ⟨inL l, h2.symm⟩
    rcases hx.2 ha with h | h | ⟨h, h'⟩
    · simp only at h; subst h; exact Or.inl ⟨c, t, rfl, rfl⟩
    · simp only at h; subst h
      right
      rw [if_neg ha] at h3
      exact ⟨n - 1, by omega, Or.inl ⟨a, t, rfl, Or.inl rfl⟩⟩
    · simp only at h h'
      subst h'
      right
      have hv := (voL_ne h).1
      rw [if_neg (fun e => hv e.symm)] at h3
      exact ⟨n - 1, by omega, Or.inl ⟨a, t, rfl, Or.inr ⟨h, rfl⟩⟩⟩
theorem gen0_mem : ∀ (s : List UInt8) (hs : ∀ b ∈ s, ¬ b = 0) (l : List DLink), l ∈ gen0 s ↔ isG 0 s l
  | [], hs, l => by
    unfold gen0
    constructor
    · intro h
      obtain rfl : l = [] := by simpa using h
      exact isG_nil 0
    · intro h
      cases l with
      | nil => simp
      | cons x l =>
        rcases isG_cases hs h with ⟨b, t, h, _⟩ | ⟨m, h, _⟩
        · cases h
        · omega
  | b :: t, hs, l => by
    have hb : ¬ b = 0 := hs b (by simp)
    have ih := gen0_mem t (fun c hc => hs c (by simp [hc]))
    unfold gen0
    rw [mem_map_cons]
    constructor
    · rintro ⟨m, hm, rfl⟩
      exact (isG_keep hb).2 ((ih m).1 hm)
    · intro h
      cases l with
      | nil => have := h.2.1; simp [inL] at this
      | cons x l =>
        rcases isG_cases hs h with ⟨b', t', h1, rfl⟩ | ⟨m, h1, _⟩
        · cases h1
          exact ⟨l, (ih l).2 ((isG_keep hb).1 h), rfl⟩
        · omega
theorem genS_mem {p : List UInt8 → List (List DLink)} {n : Nat} (hp : ∀ (s : List UInt8) (hs : ∀ b ∈ s, ¬ b = 0) (l : List DLink), l ∈ p s ↔ isG n s l) : ∀ (s : List UInt8) (hs : ∀ b ∈ s, ¬ b = 0) (l : List DLink), l ∈ genS p s ↔ isG (n + 1) s l
  | [], hs, l => by
    unfold genS
    rw [List.mem_cons, mem_insL]
    constructor
    · rintro (rfl | ⟨b, m, hb, hm, rfl⟩)
      · exact isG_nil _
      · exact (isG_ins hb).2 ((hp [] hs m).1 hm)
    · intro h
      cases l with
      | nil => exact Or.inl rfl
      | cons x l =>
        rcases isG_cases hs h with ⟨b, t, h1, _⟩ | ⟨m, h1, ⟨b, t, h2, _⟩ | ⟨c, hc, rfl⟩⟩
        · cases h1
        · cases h2
        · exact Or.inr ⟨c, l, hc, (hp [] hs l).2 ((isG_ins hc).1 h), rfl⟩
  | b :: t, hs, l => by
    have hb : ¬ b = 0 := hs b (by simp)
    have hst : ∀ c ∈ t, ¬ c = 0 := fun c hc => hs c (by simp [hc])
    have ih := genS_mem hp t hst
    unfold genS
    rw [List.mem_append, List.mem_append, List.mem_append, mem_map_cons, mem_map_cons, mem_voiceL, mem_insL]
    have hok0 : okG ⟨b, 0⟩ := ⟨fun h => absurd h hb, fun _ => Or.inr (Or.inl rfl)⟩
    constructor
    · rintro (⟨m, hm, rfl⟩ | ⟨m, hm, rfl⟩ | ⟨ho, m, hm, rfl⟩ | ⟨c, m, hc, hm, rfl⟩)
      · exact (isG_keep hb).2 ((ih m).1 hm)
      · exact (isG_edit hb hb hok0).2 ((hp t hst m).1 hm)
      · have hv := (voL_ne ho).1
        exact (isG_edit hb (fun e => hv e.symm) ⟨fun h => absurd h hb, fun _ => Or.inr (Or.inr ⟨ho, rfl⟩)⟩).2 ((hp t hst m).1 hm)
      · exact (isG_ins hc).2 ((hp (b :: t) hs m).1 hm)
    · intro h
      cases l with
      | nil => have := h.2.1; simp [inL] at this
      | cons x l =>
        rcases isG_cases hs h with ⟨b', t', h1, rfl⟩ | ⟨m, h1, ⟨b', t', h2, rfl | ⟨ho, rfl⟩⟩ | ⟨c, hc, rfl⟩⟩
        · cases h1
          exact Or.inl ⟨l, (ih l).2 ((isG_keep hb).1 h), rfl⟩
        · cases h2
          exact Or.inr (Or.inl ⟨l, (hp t hst l).2 ((isG_edit hb hb hok0).1 h), rfl⟩)
        · cases h2
          have hv := (voL_ne ho).1
          exact Or.inr (Or.inr (Or.inl ⟨ho, l, (hp t hst l).2 ((isG_edit hb (fun e => hv e.symm) ⟨fun h => absurd h hb, fun _ => Or.inr (Or.inr ⟨ho, rfl⟩)⟩).1 h), rfl⟩))
        · exact Or.inr (Or.inr (Or.inr ⟨c, l, hc, (hp (b :: t) hs l).2 ((isG_ins hc).1 h), rfl⟩))
theorem genL_mem : ∀ (n : Nat) (s : List UInt8) (hs : ∀ b ∈ s, ¬ b = 0) (l : List DLink), l ∈ genL n s ↔ isG n s l
  | 0, s, hs, l => gen0_mem s hs l
  | n + 1, s, hs, l => genS_mem (genL_mem n) s hs l
/-- All are different. -/
theorem nodup_map {x : DLink} {p : List (List DLink)} (h : p.Nodup) : (p.map (x :: ·)).Nodup := by
  induction p with
  | nil => simp
  | cons m p ih =>
    rw [List.nodup_cons] at h
    rw [List.map_cons, List.nodup_cons]
    refine ⟨fun hm => ?_, ih h.2⟩
    rw [mem_map_cons] at hm
    obtain ⟨q, hq, e⟩ := hm
    injection e with _ e
    subst e
    exact h.1 hq
theorem nodup_app {p q : List (List DLink)} (hp : p.Nodup) (hq : q.Nodup) (hd : ∀ l, l ∈ p → l ∈ q → False) : (p ++ q).Nodup :=
  List.nodup_append.2 ⟨hp, hq, fun a ha b hb e => hd a ha (e ▸ hb)⟩
theorem insL_nodup {p : List (List DLink)} (h : p.Nodup) : (insL p).Nodup := by
  unfold insL
  refine nodup_app (nodup_map h) (nodup_map h) fun l h1 h2 => ?_
  obtain ⟨m, _, rfl⟩ := mem_map_cons.1 h1
  obtain ⟨q, _, e⟩ := mem_map_cons.1 h2
  injection e with e _
  exact absurd e (by decide)
theorem voiceL_nodup {b : UInt8} {p : List (List DLink)} (h : p.Nodup) : (voiceL b p).Nodup := by
  unfold voiceL; split
  · exact nodup_map h
  · exact List.nodup_nil
theorem gen0_nodup : ∀ s, (gen0 s).Nodup
  | [] => by simp [gen0]
  | b :: t => nodup_map (gen0_nodup t)
theorem genS_nodup {p : List UInt8 → List (List DLink)} (hp : ∀ s, (∀ b ∈ s, ¬ b = 0) → (p s).Nodup) : ∀ s, (∀ b ∈ s, ¬ b = 0) → (genS p s).Nodup
  | [], hs => by
    unfold genS
    rw [List.nodup_cons]
    refine ⟨fun h => ?_, insL_nodup (hp [] hs)⟩
    obtain ⟨b, m, _, _, e⟩ := mem_insL.1 h
    cases e
  | b :: t, hs => by
    have hb : ¬ b = 0 := hs b (by simp)
    have hst : ∀ c ∈ t, ¬ c = 0 := fun c hc => hs c (by simp [hc])
    unfold genS
    refine nodup_app (nodup_map (genS_nodup hp t hst)) (nodup_app (nodup_map (hp t hst)) (nodup_app (voiceL_nodup (hp t hst)) (insL_nodup (hp _ hs)) ?_) ?_) ?_
    · intro l h1 h2
      obtain ⟨ho, m, _, rfl⟩ := mem_voiceL.1 h1
      obtain ⟨c, q, _, _, e⟩ := mem_insL.1 h2
      injection e with e _
      injection e with e _
      exact hb e
    · intro l h1 h2
      obtain ⟨m, _, rfl⟩ := mem_map_cons.1 h1
      rcases List.mem_append.1 h2 with h2 | h2
      · obtain ⟨ho, q, _, e⟩ := mem_voiceL.1 h2
        injection e with e _
        exact (voL_ne ho).2 (congrArg DLink.Out e).symm
      · obtain ⟨c, q, _, _, e⟩ := mem_insL.1 h2
        injection e with e _
        injection e with e _
        exact hb e
    · intro l h1 h2
      obtain ⟨m, _, rfl⟩ := mem_map_cons.1 h1
      rcases List.mem_append.1 h2 with h2 | h2
      · obtain ⟨q, _, e⟩ := mem_map_cons.1 h2
        injection e with e _
        injection e with _ e
        exact hb e
      · rcases List.mem_append.1 h2 with h2 | h2
        · obtain ⟨ho, q, _, e⟩ := mem_voiceL.1 h2
          injection e with e _
          exact (voL_ne ho).1 (congrArg DLink.Out e).symm
        · obtain ⟨c, q, _, _, e⟩ := mem_insL.1 h2
          injection e with e _
          injection e with e _
          exact hb e
theorem genL_nodup : ∀ (n : Nat) (s : List UInt8), (∀ b ∈ s, ¬ b = 0) → (genL n s).Nodup
  | 0, s, _ => gen0_nodup s
  | n + 1, s, hs => genS_nodup (genL_nodup n) s hs
/-- How many there are. -/
theorem insL_len (p : List (List DLink)) : (insL p).length = 2 * p.length := by unfold insL; simp; omega
theorem voiceL_len (b : UInt8) (p : List (List DLink)) : (voiceL b p).length ≤ p.length := by unfold voiceL; split <;> simp
theorem gen0_len : ∀ s, (gen0 s).length = 1
  | [] => rfl
  | b :: t => by unfold gen0; rw [List.length_map]; exact gen0_len t
theorem gen1_len : ∀ s, (genL 1 s).length ≤ 3 + 4 * s.length
  | [] => by show (genS gen0 []).length ≤ _; unfold genS; rw [List.length_cons, insL_len, gen0_len]; simp
  | b :: t => by
    have ih : (genS gen0 t).length ≤ _ := gen1_len t
    have h1 := voiceL_len b (gen0 t)
    have h2 := gen0_len t
    have h3 := gen0_len (b :: t)
    show (genS gen0 (b :: t)).length ≤ _
    unfold genS
    rw [List.length_append, List.length_append, List.length_append, List.length_map, List.length_map, insL_len, List.length_cons]
    omega
theorem gen2_len : ∀ s : List UInt8, s.length ≤ 4 → (genL 2 s).length ≤ 7 + 12 * s.length + 8 * s.length * s.length
  | [], _ => by
    have h1 := gen1_len []
    show (genS (genL 1) []).length ≤ _
    unfold genS; rw [List.length_cons, insL_len]
    simp at h1 ⊢
    omega
  | b :: t, hl => by
    rw [List.length_cons] at hl
    have ih : (genS (genL 1) t).length ≤ _ := gen2_len t (by omega)
    have h1 := voiceL_len b (genL 1 t)
    have h2 := gen1_len t
    have h3 := gen1_len (b :: t)
    show (genS (genL 1) (b :: t)).length ≤ _
    unfold genS
    rw [List.length_append, List.length_append, List.length_append, List.length_map, List.length_map, insL_len, List.length_cons]
    rw [List.length_cons] at h3
    generalize t.length = n at *
    have : n = 0 ∨ n = 1 ∨ n = 2 ∨ n = 3 := by omega
    rcases this with rfl | rfl | rfl | rfl <;> omega
theorem gen2_lin : ∀ s : List UInt8, s.length ≤ 8 → (genL 2 s).length ≤ 7 + 148 * s.length
  | [], _ => by
    have h1 := gen1_len []
    show (genS (genL 1) []).length ≤ _
    unfold genS; rw [List.length_cons, insL_len]
    simp at h1 ⊢
    omega
  | b :: t, hl => by
    rw [List.length_cons] at hl
    have ih : (genS (genL 1) t).length ≤ _ := gen2_lin t (by omega)
    have h1 := voiceL_len b (genL 1 t)
    have h2 := gen1_len t
    have h3 := gen1_len (b :: t)
    show (genS (genL 1) (b :: t)).length ≤ _
    unfold genS
    rw [List.length_append, List.length_append, List.length_append, List.length_map, List.length_map, insL_len, List.length_cons]
    rw [List.length_cons] at h3
    omega
theorem gen_len (n : Nat) (hn : n ≤ 2) (s : List UInt8) (hs : s.length ≤ 8) : (genL n s).length ≤ 2000 := by
  have : n = 0 ∨ n = 1 ∨ n = 2 := by omega
  rcases this with rfl | rfl | rfl
  · have := gen0_len s; show (gen0 s).length ≤ _; omega
  · have := gen1_len s; omega
  · have := gen2_lin s hs; omega
end Go.Proofs.Ytlkhknoaifbajaa

/- Rows of data that a call lays by appending. -/
namespace Go.Proofs.Ytlkhknoaifbajaa
set_option maxRecDepth 100000
open Go.RowKit
set_option linter.unusedVariables false

/-- A row of the call's own that holds these data; what they lead to lies within G, not in the row's block. -/
def OwnRd {α : Type} (E : Rep α) (e : TypeId) (s : Bool) (base : Nat) (w : World) (v : Value) (l : List α) (G : Addr → Prop) : Prop :=
  ∃ (cells : List Value) (Fk : Nat → Addr → Prop), w.ownsRow base e E.size v l.length cells ∧ ∀ k x, l[k]? = some x → ∃ ys : List Value, (∀ j u, ys[j]? = some u → cells[k * E.size + j]? = some u) ∧ E.rd s w ys x (Fk k) ∧
    (∀ a, Fk k a → G a ∧ a.block < w.heap.size ∧ v.ownBlock ≠ some a.block) ∧ (s = true → ∀ k', k' < l.length → k' ≠ k → ∀ a, Fk k a → ¬ Fk k' a)
section
variable {α : Type} {E : Rep α} {e : TypeId} {s : Bool} {base : Nat} {w w' : World} {v : Value} {l : List α} {G : Addr → Prop}
theorem OwnRd.row (h : OwnRd E e s base w v l G) (hm : l.length ≤ 9223372036854775807) : RowRd E s w v l (fun a => base ≤ a.block ∨ G a) := by
  obtain ⟨cells, Fk, hown, he⟩ := h
  have hh := hown
  rcases hown.2 with ⟨rfl, h0⟩ | ⟨g, cap, cur, rfl, hb, hg, _⟩
  · have : l = [] := List.eq_nil_of_length_eq_zero h0
    subst this
    exact RowRd.nil _ _ _
  · refine ⟨some ⟨g, 0, none⟩, cap, Fk, rfl, ⟨hm, fun h => by cases h⟩, fun k x hk => ?_⟩
    obtain ⟨ys, h1, h2, h3, h4⟩ := he k x hk
    have hkl : k < l.length := (List.getElem?_eq_some_iff.1 hk).1
    refine ⟨g, 0, ys, rfl, h2, fun a ha => Or.inr (h3 a ha).1, fun j u hj => ?_, fun hs => ⟨fun i _ hf => (h3 _ hf).2.2 (by simp [Value.ownBlock]), h4 hs⟩⟩
    have hjs : j < E.size := by rw [← E.len h2]; exact (List.getElem?_eq_some_iff.1 hj).1
    have hin : k * E.size + j < l.length * E.size := by
      have : (k + 1) * E.size ≤ l.length * E.size := Nat.mul_le_mul_right _ hkl
      rw [Nat.succ_mul] at this
      omega
    rw [Nat.zero_add]
    exact ⟨(hh.cellAt _ hin).trans (h1 j u hj), Or.inl hb, fun _ => hh.frozenAt _⟩
theorem OwnRd.kept (h : OwnRd E e s base w v l G) (hb : Below w.heap.size w w') : OwnRd E e s base w' v l G := by
  obtain ⟨cells, Fk, hown, he⟩ := h
  refine ⟨cells, Fk, ⟨hown.1, ?_⟩, fun k x hk => ?_⟩
  · rcases hown.2 with h2 | ⟨g, cap, cur, hv, hg, hh, r⟩
    · exact Or.inl h2
    · exact Or.inr ⟨g, cap, cur, hv, hg, (hb.block g (Array.getElem?_eq_some_iff.1 hh).1).trans hh, r⟩
  · obtain ⟨ys, h1, h2, h3, h4⟩ := he k x hk
    exact ⟨ys, h1, E.kept h2 hb, fun a ha => ⟨(h3 a ha).1, Nat.lt_of_lt_of_le (h3 a ha).2.1 hb.size, (h3 a ha).2.2⟩, h4⟩
theorem OwnRd.lt (h : OwnRd E e s base w v l G) : ∀ k, v.ownBlock = some k → base ≤ k ∧ k < w.heap.size := by
  obtain ⟨cells, Fk, hown, _⟩ := h
  exact hown.lt
theorem OwnRd.mono {G' : Addr → Prop} (h : OwnRd E e s base w v l G) (hg : ∀ a, G a → G' a) : OwnRd E e s base w v l G' := by
  obtain ⟨cells, Fk, hown, he⟩ := h
  refine ⟨cells, Fk, hown, fun k x hk => ?_⟩
  obtain ⟨ys, h1, h2, h3, h4⟩ := he k x hk
  exact ⟨ys, h1, h2, fun a ha => ⟨hg a (h3 a ha).1, (h3 a ha).2⟩, h4⟩
/-- A new empty row. -/
theorem OwnRd.empty (w : World) (hb : base ≤ w.heap.size) (G : Addr → Prop) : OwnRd E e s base (w.alloc (.cells #[] e)) (.slice (some ⟨w.heap.size, 0, none⟩) 0 0) ([] : List α) G :=
  ⟨[], fun _ _ => False, ⟨by simp, Or.inr ⟨w.heap.size, 0, #[], rfl, hb, heap_alloc_new _ _, Nat.le_refl _, Nat.zero_le _, by simp, by simp⟩⟩, fun k x hk => by simp at hk⟩
theorem OwnRd.nil (w : World) (G : Addr → Prop) : OwnRd E e s base w (.slice none 0 0) ([] : List α) G :=
  ⟨[], fun _ _ => False, ⟨by simp, Or.inl ⟨rfl, rfl⟩⟩, fun k x hk => by simp at hk⟩
/-- One element more. -/
theorem OwnRd.grow (h : OwnRd E e s base w v l G) {v' : Value} {xs : List Value} {x : α} {Fx : Addr → Prop} {cells0 : List Value} (hx : E.rd s w xs x Fx)
    (hFx : ∀ a, Fx a → a.block < w.heap.size ∧ v.ownBlock ≠ some a.block) (hd : s = true → ∀ a, Fx a → ¬ G a)
    (hcells : ∀ cells, w.ownsRow base e E.size v l.length cells → w'.ownsRow base e E.size v' (l.length + 1) (cells ++ xs)) (hsz : w.heap.size ≤ w'.heap.size)
    (hkeep : ∀ k, k < w.heap.size → v.ownBlock ≠ some k → w'.heap[k]? = w.heap[k]? ∧ v'.ownBlock ≠ some k) : OwnRd E e s base w' v' (l ++ [x]) (fun a => G a ∨ Fx a) := by
  obtain ⟨cells, Fk, hown, he⟩ := h
  have hcl : cells.length = l.length * E.size := hown.1
  have hfr : ∀ (F : Addr → Prop), (∀ a, F a → a.block < w.heap.size ∧ v.ownBlock ≠ some a.block) → ∀ a, F a → w'.cell? a = w.cell? a ∧ w'.frozen? a = w.frozen? a := fun F hF a ha =>
    ⟨World.cell?_of_block (w := w) (hkeep _ (hF a ha).1 (hF a ha).2).1, World.frozen?_of_block (w := w) (hkeep _ (hF a ha).1 (hF a ha).2).1⟩
  refine ⟨cells ++ xs, fun k => if k < l.length then Fk k else Fx, by rw [List.length_append, List.length_singleton]; exact hcells cells hown, fun k y hk => ?_⟩
  by_cases hkl : k < l.length
  · rw [List.getElem?_append_left hkl] at hk
    obtain ⟨ys, h1, h2, h3, h4⟩ := he k y hk
    refine ⟨ys, fun j u hj => ?_, ?_, ?_, ?_⟩
    · have := h1 j u hj
      rw [List.getElem?_append_left (List.getElem?_eq_some_iff.1 this).1]; exact this
    · simp only [if_pos hkl]
      exact E.frame h2 (hfr _ fun a ha => (h3 a ha).2)
    · simp only [if_pos hkl]
      exact fun a ha => ⟨Or.inl (h3 a ha).1, Nat.lt_of_lt_of_le (h3 a ha).2.1 hsz, (hkeep _ (h3 a ha).2.1 (h3 a ha).2.2).2⟩
    · intro hs k' hk' hne a ha
      simp only [if_pos hkl] at ha
      by_cases hk2 : k' < l.length
      · simp only [if_pos hk2]; exact h4 hs k' hk2 hne a ha
      · simp only [if_neg hk2]; exact fun hf => hd hs a hf (h3 a ha).1
  · have hk1 : k < (l ++ [x]).length := (List.getElem?_eq_some_iff.1 hk).1
    rw [List.length_append, List.length_singleton] at hk1
    obtain rfl : k = l.length := by omega
    rw [List.getElem?_append_right (Nat.le_refl _), Nat.sub_self] at hk
    simp at hk
    subst hk
    refine ⟨xs, fun j u hj => ?_, ?_, ?_, ?_⟩
    · rw [List.getElem?_append_right (by omega), hcl, show l.length * E.size + j - l.length * E.size = j by omega]; exact hj
    · simp only [if_neg hkl]
      exact E.frame hx (hfr _ hFx)
    · simp only [if_neg hkl]
      exact fun a ha => ⟨Or.inr ha, Nat.lt_of_lt_of_le (hFx a ha).1 hsz, (hkeep _ (hFx a ha).1 (hFx a ha).2).2⟩
    · intro hs k' hk' hne a ha
      simp only [if_neg hkl] at ha
      rw [List.length_append, List.length_singleton] at hk'
      have hk2 : k' < l.length := by omega
      simp only [if_pos hk2]
      obtain ⟨ys, _, _, q3, _⟩ := he k' _ (List.getElem?_eq_getElem hk2)
      exact fun hf => hd hs a ha (q3 a hf).1
end
theorem cells_new (w : World) (xs : List Value) (t : TypeId) : ∀ j u, xs[j]? = some u → (w.alloc (.cells xs.toArray t)).cell? ((⟨w.heap.size, 0, none⟩ : Addr).add j) = some u := by
  intro j u hj
  have h := cell_in (heap_alloc_new w (.cells xs.toArray t)) j (u := u) (by simpa using hj)
  unfold Addr.add
  split
  · rename_i h0; rw [h0] at h; exact h
  · simpa using h
/-- 'append(s, x)' of one element. -/
theorem wpList_append_el {α : Type} (E : Rep α) {ops : Array Oper} {rest : List Oper} {o : Oper} {a : Act} {Q : Exit → Act → World → Prop} (w : World) (hgd : o.guard = none) (sl y : Operand) (t e : TypeId) (i : TypeInfo) (z : Value) (bytes : Nat)
    (ho : o.op = .call { callee := .builtin .append, args := #[sl, y], argTypes := #[t, t] }) (ht : Try.prog.underlying t = some (.slice e)) (hi : Try.prog.info? e = some i) (hz : i.zero = some z) (hsize : i.size = E.size) (hby : i.bytes = bytes) (hzs : z.cells.size = E.size) (hpos : 0 < E.size)
    (s : Bool) (base : Nat) (v : Value) (l : List α) (G : Addr → Prop) (hown : OwnRd E e s base w v l G) (hs : a.eval sl = v) (xs : List Value) (x : α) (Fx : Addr → Prop) (hx : E.rd s w xs x Fx)
    (hFx : ∀ a, Fx a → a.block < w.heap.size ∧ v.ownBlock ≠ some a.block) (hd : s = true → ∀ a, Fx a → ¬ G a)
    (hy : a.eval y = .slice (some ⟨w.heap.size, 0, none⟩) 1 1) (h1 : ∀ u ∈ xs, u.oneCell' = true) (hn : l.length ≤ 1000000) (hbb : bytes ≤ 100) (hbase : base ≤ w.heap.size)
    (h : ∀ v' w', OwnRd E e s base w' v' (l ++ [x]) (fun a => G a ∨ Fx a) → Below base w w' → (∀ k, k < w.heap.size → v.ownBlock ≠ some k → w'.heap[k]? = w.heap[k]? ∧ v'.ownBlock ≠ some k) → (v'.ownBlock = v.ownBlock ∨ ∀ k, v'.ownBlock = some k → w.heap.size ≤ k) → wpList Try.prog ops Q rest (a.put o.dst v') w') :
    wpList Try.prog ops Q (o :: rest) a (w.alloc (.cells xs.toArray e)) := by
  obtain ⟨cells, Fk, ho1, he⟩ := hown
  have hbyt : (l.length + 1) * bytes ≤ 140737488355328 := Nat.le_trans (Nat.mul_le_mul (Nat.succ_le_succ hn) hbb) (by omega)
  refine wpList_append_own_at _ hgd sl y t ho base e i z E.size bytes ht hi hz hsize hby hzs hpos v l.length cells hs (ho1.alloc _) ⟨w.heap.size, 0, none⟩ 1 1 xs hy (by rw [E.len hx]; omega) (cells_new _ _ _) h1 (by unfold maxLen; omega) hbyt (by simp; omega) ?_
  intro v' w' q1 q2 _ q4
  have hkeep : ∀ k, k < w.heap.size → v.ownBlock ≠ some k → w'.heap[k]? = w.heap[k]? ∧ v'.ownBlock ≠ some k := fun k hk hv => by
    refine ⟨(q2.block k (by simp; omega) (fun e => hv e.symm)).trans (Below.heap_alloc w _ k hk), ?_⟩
    rcases q4 with q4 | q4
    · rw [q4]; exact hv
    · rw [q4]; simp; omega
  have hsz : w.heap.size ≤ w'.heap.size := Nat.le_trans (by simp) q2.size
  refine h v' w' (OwnRd.grow (cells0 := cells) ⟨cells, Fk, ho1, he⟩ hx hFx hd (fun cs hcs => ?_) hsz hkeep) ?_ hkeep ?_
  · have : cs = cells := by
      rcases ho1.2 with ⟨rfl, h0⟩ | ⟨g, cap, cur, rfl, _, hg, _, _, _, htk⟩
      · have e1 := ho1.1; have e2 := hcs.1; rw [h0, Nat.zero_mul] at e1 e2
        rw [List.eq_nil_of_length_eq_zero e1, List.eq_nil_of_length_eq_zero e2]
      · rcases hcs.2 with ⟨h0, _⟩ | ⟨g', cap', cur', hv', _, hg', _, _, _, htk'⟩
        · cases h0
        · cases hv'
          rw [hg] at hg'
          cases hg'
          rw [← htk, ← htk']
    subst this
    exact q1
  · exact ((Below.refl base w).alloc hbase _).grown q2 (by simp; omega) (fun q hq => (ho1.lt q hq).1)
  · rcases q4 with q4 | q4
    · exact Or.inl q4
    · exact Or.inr fun k hk => by rw [q4] at hk; cases hk; simp
/-- Elements that lead nowhere: the same cells stand for them in every world. -/
structure Flat {α : Type} (E : Rep α) : Prop where
  free : ∀ {s : Bool} {w : World} {ys : List Value} {x : α} {F : Addr → Prop}, E.rd s w ys x F → ∀ w', E.rd true w' ys x (fun _ => False)
  one : ∀ {s : Bool} {w : World} {ys : List Value} {x : α} {F : Addr → Prop}, E.rd s w ys x F → ∀ u ∈ ys, u.oneCell' = true
/-- The cells of a row, one behind the other. -/
def rowCells (w : World) (g off n : Nat) : List Value := (List.range n).map fun i => (w.cell? ⟨g, off + i, none⟩).getD .nilIface
theorem rowCells_len (w : World) (g off n : Nat) : (rowCells w g off n).length = n := by simp [rowCells]
theorem rowCells_at {w : World} {g off n i : Nat} {u : Value} (hi : i < n) (h : w.cell? ⟨g, off + i, none⟩ = some u) : (rowCells w g off n)[i]? = some u := by
  unfold rowCells; rw [List.getElem?_map, List.getElem?_range hi]; simp [h]
theorem RowRd.all_cells {α : Type} {E : Rep α} {s : Bool} {w : World} {g off n cap : Nat} {m : List α} {F : Addr → Prop} (h : RowRd E s w (.slice (some ⟨g, off, none⟩) n cap) m F) (hp : 0 < E.size) {i : Nat} (hi : i < m.length * E.size) :
    ∃ x ys Fk u, m[i / E.size]? = some x ∧ E.rd s w ys x Fk ∧ ys[i % E.size]? = some u ∧ w.cell? ⟨g, off + i, none⟩ = some u := by
  have hq : i / E.size < m.length := Nat.div_lt_of_lt_mul (by rw [Nat.mul_comm]; exact hi)
  obtain ⟨g', off', ys, Fk, ha, hl, hr, _, hc⟩ := h.get (List.getElem?_eq_getElem hq)
  cases ha
  have hm : i % E.size < ys.length := by rw [hl]; exact Nat.mod_lt _ hp
  refine ⟨_, ys, Fk, _, List.getElem?_eq_getElem hq, hr, List.getElem?_eq_getElem hm, ?_⟩
  have := hc _ _ (List.getElem?_eq_getElem hm)
  rwa [Nat.add_assoc, Nat.mul_comm, Nat.div_add_mod] at this
/-- 'append(s, y...)' of elements that lead nowhere. -/
theorem wpList_append_row {α : Type} (E : Rep α) (hfl : Flat E) {ops : Array Oper} {rest : List Oper} {o : Oper} {a : Act} {Q : Exit → Act → World → Prop} (w : World) (hgd : o.guard = none) (sl y : Operand) (t e : TypeId) (i : TypeInfo) (z : Value) (bytes : Nat)
    (ho : o.op = .call { callee := .builtin .append, args := #[sl, y], argTypes := #[t, t] }) (ht : Try.prog.underlying t = some (.slice e)) (hi : Try.prog.info? e = some i) (hz : i.zero = some z) (hsize : i.size = E.size) (hby : i.bytes = bytes) (hzs : z.cells.size = E.size) (hpos : 0 < E.size)
    (s s2 : Bool) (base : Nat) (v : Value) (l : List α) (G : Addr → Prop) (hown : OwnRd E e s base w v l G) (hs : a.eval sl = v) (A : Option Addr) (n cap : Nat) (m : List α) (F : Addr → Prop) (hrow : RowRd E s2 w (.slice A n cap) m F)
    (hy : a.eval y = .slice A n cap) (hn : l.length ≤ 1000000) (hm : m.length ≤ 1000000) (hbb : bytes ≤ 100) (hbase : base ≤ w.heap.size)
    (h : ∀ v' w', OwnRd E e true base w' v' (l ++ m) (fun _ => False) → Below base w w' → (∀ k, k < w.heap.size → v.ownBlock ≠ some k → w'.heap[k]? = w.heap[k]? ∧ v'.ownBlock ≠ some k) → wpList Try.prog ops Q rest (a.put o.dst v') w') :
    wpList Try.prog ops Q (o :: rest) a w := by
  obtain ⟨cells, Fk, ho1, he⟩ := hown
  have hcl : cells.length = l.length * E.size := ho1.1
  obtain ⟨A', cap', hf⟩ := hrow.form
  cases hf
  cases A with
  | none =>
    obtain ⟨_, h2, hmn⟩ := hrow.nil_cap
    subst h2 hmn
    refine wpList_append_own_none hgd sl y t ho base e i E.size ht hi v l.length cells hs ho1 hy ?_
    refine h v w ⟨cells, fun _ _ => False, by simpa using ho1, fun k x hk => ?_⟩ (Below.refl _ _) (fun k _ hv => ⟨rfl, hv⟩)
    rw [List.append_nil] at hk
    obtain ⟨ys, q1, q2, _⟩ := he k x hk
    exact ⟨ys, q1, hfl.free q2 _, fun a h => h.elim, fun _ k' _ _ a h => h.elim⟩
  | some p =>
    by_cases hme : m = []
    · subst hme
      have hbyt : (l.length + 0) * bytes ≤ 140737488355328 := Nat.le_trans (Nat.mul_le_mul hn hbb) (by omega)
      refine wpList_append_own_at _ hgd sl y t ho base e i z E.size bytes ht hi hz hsize hby hzs hpos v l.length cells hs ho1 p 0 cap [] hy (by simp) (fun j u hj => by simp at hj) (fun u hu => by simp at hu) (by unfold maxLen; omega) hbyt hbase ?_
      intro v' w' q1 q2 _ q4
      have hkeep : ∀ k, k < w.heap.size → v.ownBlock ≠ some k → w'.heap[k]? = w.heap[k]? ∧ v'.ownBlock ≠ some k := fun k hk hv => by
        refine ⟨q2.block k hk (fun e => hv e.symm), ?_⟩
        rcases q4 with q4 | q4
        · rw [q4]; exact hv
        · rw [q4]; simp; omega
      refine h v' w' ⟨cells, fun _ _ => False, by simpa using q1, fun k x hk => ?_⟩ ((Below.refl base w).grown q2 hbase (fun q hq => (ho1.lt q hq).1)) hkeep
      rw [List.append_nil] at hk
      obtain ⟨ys, r1, r2, _⟩ := he k x hk
      exact ⟨ys, r1, hfl.free r2 _, fun a h => h.elim, fun _ k' _ _ a h => h.elim⟩
    have hm0 : 0 < m.length := List.length_pos_iff.2 hme
    obtain ⟨g, off, _, _, hp, _⟩ := hrow.get (List.getElem?_eq_getElem hm0)
    cases hp
    have hbyt : (l.length + m.length) * bytes ≤ 140737488355328 := Nat.le_trans (Nat.mul_le_mul (Nat.add_le_add hn hm) hbb) (by omega)
    have hadd : ∀ j, (⟨g, off, none⟩ : Addr).add j = ⟨g, off + j, none⟩ := fun j => by unfold Addr.add; split <;> simp_all
    refine wpList_append_own_at _ hgd sl y t ho base e i z E.size bytes ht hi hz hsize hby hzs hpos v l.length cells hs ho1 ⟨g, off, none⟩ m.length cap (rowCells w g off (m.length * E.size)) hy (rowCells_len _ _ _ _) (fun j u hj => ?_) (fun u hu => ?_) (by unfold maxLen; omega) hbyt hbase ?_
    · have hjl : j < m.length * E.size := by have := (List.getElem?_eq_some_iff.1 hj).1; rwa [rowCells_len] at this
      obtain ⟨_, _, _, u', _, _, _, hc⟩ := hrow.all_cells hpos hjl
      rw [rowCells_at hjl hc] at hj
      cases hj
      rw [hadd]; exact hc
    · obtain ⟨j, hj⟩ := List.mem_iff_getElem?.1 hu
      have hjl : j < m.length * E.size := by have := (List.getElem?_eq_some_iff.1 hj).1; rwa [rowCells_len] at this
      obtain ⟨_, ys, _, u', _, hr, hyu, hc⟩ := hrow.all_cells hpos hjl
      rw [rowCells_at hjl hc] at hj
      cases hj
      exact hfl.one hr _ (List.mem_of_getElem? hyu)
    · intro v' w' q1 q2 _ q4
      have hkeep : ∀ k, k < w.heap.size → v.ownBlock ≠ some k → w'.heap[k]? = w.heap[k]? ∧ v'.ownBlock ≠ some k := fun k hk hv => by
        refine ⟨q2.block k hk (fun e => hv e.symm), ?_⟩
        rcases q4 with q4 | q4
        · rw [q4]; exact hv
        · rw [q4]; simp; omega
      refine h v' w' ⟨cells ++ rowCells w g off (m.length * E.size), fun _ _ => False, by rw [List.length_append]; exact q1, fun k x hk => ?_⟩ ((Below.refl base w).grown q2 hbase (fun q hq => (ho1.lt q hq).1)) hkeep
      by_cases hkl : k < l.length
      · rw [List.getElem?_append_left hkl] at hk
        obtain ⟨ys, r1, r2, _⟩ := he k x hk
        refine ⟨ys, fun j u hj => ?_, hfl.free r2 _, fun a h => h.elim, fun _ k' _ _ a h => h.elim⟩
        have := r1 j u hj
        rw [List.getElem?_append_left (List.getElem?_eq_some_iff.1 this).1]; exact this
      · rw [List.getElem?_append_right (by omega)] at hk
        obtain ⟨g', off', ys, F', ha, hl', hr, _, hc⟩ := hrow.get hk
        cases ha
        refine ⟨ys, fun j u hj => ?_, hfl.free hr _, fun a h => h.elim, fun _ k' _ _ a h => h.elim⟩
        have hkm : k - l.length < m.length := (List.getElem?_eq_some_iff.1 hk).1
        have hjs : j < E.size := by rw [← hl']; exact (List.getElem?_eq_some_iff.1 hj).1
        have hin : (k - l.length) * E.size + j < m.length * E.size := by
          have : (k - l.length + 1) * E.size ≤ m.length * E.size := Nat.mul_le_mul_right _ hkm
          rw [Nat.succ_mul] at this
          omega
        have hsub : k * E.size + j - l.length * E.size = (k - l.length) * E.size + j := by
          have h1 : k * E.size = (k - l.length) * E.size + l.length * E.size := by rw [← Nat.add_mul, Nat.sub_add_cancel (by omega)]
          omega
        have hge : l.length * E.size ≤ k * E.size + j := by
          have : l.length * E.size ≤ k * E.size := Nat.mul_le_mul_right _ (by omega)
          omega
        rw [List.getElem?_append_right (by omega), hcl, hsub]
        refine rowCells_at hin ?_
        rw [← Nat.add_assoc]
        exact hc j u hj
/-- What a call has laid between s1 and s2 stands as it did; a row that grows lies apart from it. -/
structure KeepB (s1 s2 : Nat) (w w' : World) : Prop where
  size : s2 ≤ w'.heap.size
  same : ∀ k, s1 ≤ k → k < s2 → w'.heap[k]? = w.heap[k]?
def Apart (v : Value) (s1 s2 : Nat) : Prop := ∀ k, v.ownBlock = some k → k < s1 ∨ s2 ≤ k
theorem KeepB.refl {s1 s2 : Nat} {w : World} (h : s2 ≤ w.heap.size) : KeepB s1 s2 w w := ⟨h, fun _ _ _ => rfl⟩
theorem KeepB.below {s1 s2 : Nat} {a b c : World} (h : KeepB s1 s2 a b) (k : Below b.heap.size b c) : KeepB s1 s2 a c :=
  ⟨Nat.le_trans h.size k.size, fun i hi hj => (k.block i (Nat.lt_of_lt_of_le hj h.size)).trans (h.same i hi hj)⟩
theorem KeepB.grow {s1 s2 : Nat} {a b c : World} {v : Value} (h : KeepB s1 s2 a b) (hap : Apart v s1 s2) (hsz : b.heap.size ≤ c.heap.size) (hk : ∀ k, k < b.heap.size → v.ownBlock ≠ some k → c.heap[k]? = b.heap[k]?) : KeepB s1 s2 a c :=
  ⟨Nat.le_trans h.size hsz, fun i hi hj => (hk i (Nat.lt_of_lt_of_le hj h.size) (fun e => by rcases hap i e with h1 | h1 <;> omega)).trans (h.same i hi hj)⟩
theorem Apart.grow {s1 s2 : Nat} {v v' : Value} {n : Nat} (h : Apart v s1 s2) (hn : s2 ≤ n) (hm : v'.ownBlock = v.ownBlock ∨ ∀ k, v'.ownBlock = some k → n ≤ k) : Apart v' s1 s2 := fun k hk => by
  rcases hm with h1 | h1
  · rw [h1] at hk; exact h k hk
  · exact Or.inr (Nat.le_trans hn (h1 k hk))
theorem RowRd.keepB {α : Type} {E : Rep α} {s : Bool} {s1 s2 : Nat} {w w' : World} {v : Value} {l : List α} {F : Addr → Prop} (h : RowRd E s w v l F) (hF : ∀ a, F a → s1 ≤ a.block ∧ a.block < s2) (hk : KeepB s1 s2 w w') : RowRd E s w' v l F :=
  h.frame fun a ha => ⟨World.cell?_of_block (w := w) (hk.same _ (hF a ha).1 (hF a ha).2), World.frozen?_of_block (w := w) (hk.same _ (hF a ha).1 (hF a ha).2)⟩
theorem apart_move {s1 s2 : Nat} {w : World} {v : Value} (hap : Apart v s1 s2) {Fk : Addr → Prop} (hFk : ∀ p, Fk p → s1 ≤ p.block ∧ p.block < s2) (hs : s2 ≤ w.heap.size) :
    ∀ p, Fk p → p.block < w.heap.size ∧ v.ownBlock ≠ some p.block := fun p hp => by
  have h := hFk p hp
  refine ⟨by omega, fun e => ?_⟩
  rcases hap _ e with h1 | h1 <;> omega
/-- A new row of one element that leads nowhere. -/
theorem OwnRd.single {α : Type} {E : Rep α} {e : TypeId} (hfl : Flat E) (w : World) {s : Bool} {ys : List Value} {x : α} {F : Addr → Prop} (hx : E.rd s w ys x F) : OwnRd E e true w.heap.size (w.alloc (.cells ys.toArray e)) (.slice (some ⟨w.heap.size, 0, none⟩) 1 1) [x] (fun _ => False) :=
  ⟨ys, fun _ _ => False, ⟨by rw [List.length_singleton, E.len hx, Nat.one_mul], Or.inr ⟨w.heap.size, 1, ys.toArray, rfl, Nat.le_refl _, heap_alloc_new _ _, Nat.le_refl _, by unfold maxLen; omega, by simp [E.len hx], by simp [E.len hx, List.take_of_length_le]⟩⟩, fun k y hk => by
    match k, hk with
    | 0, hk =>
      simp at hk
      subst hk
      exact ⟨ys, fun j u hj => by rw [Nat.zero_mul, Nat.zero_add]; exact hj, hfl.free hx _, fun a h => h.elim, fun _ k' _ _ a h => h.elim⟩⟩
end Go.Proofs.Ytlkhknoaifbajaa

/- Rows of data that a call lays by appending rows; what the row that was there before still holds. -/
namespace Go.Proofs.Ytlkhknoaifbajaa
set_option maxRecDepth 100000
open Go.RowKit
set_option linter.unusedVariables false
set_option linter.unusedSimpArgs false

theorem addr_add (g o n : Nat) : (⟨g, o, none⟩ : Addr).add n = ⟨g, o + n, none⟩ := by
  unfold Addr.add
  by_cases h : n = 0
  · subst h; rfl
  · rw [if_neg h]
section
variable {P : Program} {w : World}
/-- The row that was appended to is still what it was, in its old length. -/
theorem append_old (base : Nat) (t ty e : TypeId) (i : TypeInfo) (z : Value) (ht : P.underlying t = some (.slice e)) (hi : P.info? e = some i) (hz : i.zero = some z) (hsz : 0 < i.size)
    (v : Value) (n : Nat) (xs : List Value) (hown : w.ownsRow base e i.size v n xs) (a : Addr) (m c : Nat) (news : List Value) (hl : news.length = m * i.size) (hnews : ∀ j u, news[j]? = some u → w.cell? (a.add j) = some u)
    (h1 : ∀ u ∈ news, u.oneCell' = true) (h63 : n + m ≤ maxLen) (hbytes : (n + m) * i.bytes ≤ 140737488355328)
    {v' : Value} {w' : World} (hrun : (Builtin.append_ #[t, t] ty #[v, .slice (some a) m c]).run P w = .ok v' w') : w'.ownsRow base e i.size v n xs := by
  rcases hown.2 with ⟨rfl, rfl⟩ | ⟨g, cap, cur, rfl, hbg, hg, hnc, hcm, hcs, htake⟩
  · exact ⟨hown.1, Or.inl ⟨rfl, rfl⟩⟩
  · have hxl := hown.1
    by_cases hroom : n + m ≤ cap
    · have hfit : n * i.size + news.length ≤ cur.size := by rw [hl, hcs, ← Nat.add_mul]; exact Nat.mul_le_mul_right _ hroom
      rw [run_append_room (P := P) w t ty e i ht hi g n cap cur hg a m c news hl hnews h1 hroom hfit] at hrun
      injection hrun with e1 e2
      subst e2
      refine ⟨hxl, Or.inr ⟨g, cap, _, rfl, hbg, setRow_heap w g cur _ e _ hg, hnc, hcm, ?_, ?_⟩⟩
      · simp only [List.size_toArray, List.length_append, List.length_take, List.length_drop, Array.length_toList]
        omega
      · rw [htake, List.append_assoc, ← hxl]
        exact List.take_left
    · rw [run_append_grow (P := P) w t ty e i z ht hi hz ⟨g, 0, none⟩ n cap xs hxl (hown.cells (g := g) rfl) a m c news hl hnews (by omega) (by simp only [maxLen] at h63; omega) (growslice_fits (by omega) hbytes)] at hrun
      injection hrun with e1 e2
      subst e2
      exact ⟨hxl, Or.inr ⟨g, cap, cur, rfl, hbg, (heap_alloc_old w.drew _ (Array.getElem?_eq_some_iff.1 hg).1).trans hg, hnc, hcm, hcs, htake⟩⟩
end
section
variable {α : Type} {E : Rep α} {e : TypeId} {s : Bool} {base : Nat} {w w' : World} {v : Value} {l : List α} {G : Addr → Prop}
theorem OwnRd.frame (h : OwnRd E e s base w v l G) (hv : ∀ k, v.ownBlock = some k → w'.heap[k]? = w.heap[k]?) (hG : ∀ a, G a → a.block < w.heap.size → v.ownBlock ≠ some a.block → w'.heap[a.block]? = w.heap[a.block]?) (hsz : w.heap.size ≤ w'.heap.size) : OwnRd E e s base w' v l G := by
  obtain ⟨cells, Fk, hown, he⟩ := h
  refine ⟨cells, Fk, ⟨hown.1, ?_⟩, fun k x hk => ?_⟩
  · rcases hown.2 with h2 | ⟨g, cap, cur, rfl, hg, hh, r⟩
    · exact Or.inl h2
    · exact Or.inr ⟨g, cap, cur, rfl, hg, (hv g rfl).trans hh, r⟩
  · obtain ⟨ys, h1, h2, h3, h4⟩ := he k x hk
    refine ⟨ys, h1, E.frame h2 (fun a ha => ?_), fun a ha => ⟨(h3 a ha).1, Nat.lt_of_lt_of_le (h3 a ha).2.1 hsz, (h3 a ha).2.2⟩, h4⟩
    have hb := hG a (h3 a ha).1 (h3 a ha).2.1 (h3 a ha).2.2
    exact ⟨World.cell?_of_block (w := w) hb, World.frozen?_of_block (w := w) hb⟩
theorem OwnRd.flat (hfl : Flat E) (h : OwnRd E e s base w v l G) : OwnRd E e true base w v l (fun _ => False) := by
  obtain ⟨cells, Fk, hown, he⟩ := h
  refine ⟨cells, fun _ _ => False, hown, fun k x hk => ?_⟩
  obtain ⟨ys, h1, h2, h3, h4⟩ := he k x hk
  exact ⟨ys, h1, hfl.free h2 _, fun a h => h.elim, fun _ k' _ _ a h => h.elim⟩
/-- A new row of one element. -/
theorem RowRd.one (w : World) {ys : List Value} {x : α} {F : Addr → Prop} (hx : E.rd s w ys x F) (hF : ∀ a, F a → a.block < w.heap.size) :
    RowRd E s (w.alloc (.cells ys.toArray e)) (.slice (some ⟨w.heap.size, 0, none⟩) 1 1) [x] (fun a => F a ∨ a.block = w.heap.size) := by
  have hb : Below w.heap.size w (w.alloc (.cells ys.toArray e)) := (Below.refl _ _).alloc (Nat.le_refl _) _
  refine ⟨some ⟨w.heap.size, 0, none⟩, 1, fun _ => F, rfl, ⟨by simp, fun h => by cases h⟩, fun k y hk => ?_⟩
  match k, hk with
  | 0, hk =>
    simp at hk
    subst hk
    refine ⟨w.heap.size, 0, ys, rfl, E.kept hx hb, fun a ha => Or.inl ha, fun j u hj => ?_, fun hs => ⟨fun i _ hf => ?_, fun k' hk' hne => by simp at hk'; omega⟩⟩
    · have hin : InC (w.alloc (.cells ys.toArray e)) w.heap.size ys.toArray e := heap_alloc_new _ _
      simp only [Nat.zero_mul, Nat.zero_add, Nat.add_zero]
      exact ⟨hin.cell j (by simpa using hj), by simp, fun _ => hin.free j⟩
    · have := hF _ hf
      simp at this
end
/-- 'append(s, y...)': what it answers and leaves. -/
theorem run_append_rows {α : Type} (E : Rep α) {w : World} (t ty e : TypeId) (i : TypeInfo) (z : Value) (bytes : Nat) (ht : Try.prog.underlying t = some (.slice e)) (hi : Try.prog.info? e = some i) (hz : i.zero = some z) (hsize : i.size = E.size) (hby : i.bytes = bytes) (hzs : z.cells.size = E.size) (hpos : 0 < E.size)
    (hone : ∀ {s : Bool} {w : World} {ys : List Value} {x : α} {F : Addr → Prop}, E.rd s w ys x F → ∀ u ∈ ys, u.oneCell' = true)
    (s : Bool) (base : Nat) (v : Value) (l : List α) (G : Addr → Prop) (hown : OwnRd E e s base w v l G) (A : Option Addr) (n cap : Nat) (m : List α) (F : Addr → Prop) (hrow : RowRd E s w (.slice A n cap) m F)
    (hF : ∀ a, F a → a.block < w.heap.size ∧ v.ownBlock ≠ some a.block) (hd : s = true → ∀ a, F a → ¬ G a) (hn : l.length ≤ 1000000) (hm : m.length ≤ 1000000) (hbb : bytes ≤ 100) (hbase : base ≤ w.heap.size) :
    ∃ v' w', (Builtin.append_ #[t, t] ty #[v, .slice A n cap]).run Try.prog w = .ok v' w' ∧ OwnRd E e s base w' v' (l ++ m) (fun a => G a ∨ F a) ∧ OwnRd E e s base w' v l G ∧ Below base w w' ∧
      (∀ k, k < w.heap.size → v.ownBlock ≠ some k → w'.heap[k]? = w.heap[k]? ∧ v'.ownBlock ≠ some k) ∧ (v'.ownBlock = v.ownBlock ∨ ∀ k, v'.ownBlock = some k → w.heap.size ≤ k) := by
  have hown0 := hown
  obtain ⟨cells, Fk, ho1, he⟩ := hown
  have hcl : cells.length = l.length * E.size := ho1.1
  obtain ⟨A', cap', hf⟩ := hrow.form
  cases hf
  cases A with
  | none =>
    obtain ⟨h0, h2, hmn⟩ := hrow.nil_cap
    subst h2 hmn
    refine ⟨v, w, run_append_owned_none (P := Try.prog) (w := w) base t ty e i E.size ht hi v l.length cells ho1, ?_, hown0, Below.refl _ _, fun k _ hv => ⟨rfl, hv⟩, Or.inl rfl⟩
    rw [List.append_nil]
    exact hown0.mono (fun a h => Or.inl h)
  | some p =>
    obtain ⟨ad, had, hrc⟩ : ∃ ad : Addr, p = ad ∧ ∃ news : List Value, news.length = m.length * E.size ∧ (∀ j u, news[j]? = some u → w.cell? (ad.add j) = some u) ∧ (∀ u ∈ news, u.oneCell' = true) ∧
        (∀ (k : Nat) (x : α), m[k]? = some x → ∃ ys Fx, E.rd s w ys x Fx ∧ (∀ j u, ys[j]? = some u → news[k * E.size + j]? = some u)) := by
      refine ⟨p, rfl, ?_⟩
      by_cases hme : m = []
      · subst hme
        exact ⟨[], by simp, fun j u hj => by simp at hj, fun u hu => by simp at hu, fun k x hk => by simp at hk⟩
      · have hm0 : 0 < m.length := List.length_pos_iff.2 hme
        obtain ⟨g, off, _, _, hp, _⟩ := hrow.get (List.getElem?_eq_getElem hm0)
        cases hp
        have hadd : ∀ j, (⟨g, off, none⟩ : Addr).add j = ⟨g, off + j, none⟩ := fun j => by unfold Addr.add; split <;> simp_all
        refine ⟨rowCells w g off (m.length * E.size), rowCells_len _ _ _ _, fun j u hj => ?_, fun u hu => ?_, fun k x hk => ?_⟩
        · have hjl : j < m.length * E.size := by have := (List.getElem?_eq_some_iff.1 hj).1; rwa [rowCells_len] at this
          obtain ⟨_, _, _, u', _, _, _, hc⟩ := hrow.all_cells hpos hjl
          rw [rowCells_at hjl hc] at hj
          cases hj
          rw [hadd]; exact hc
        · obtain ⟨j, hj⟩ := List.mem_iff_getElem?.1 hu
          have hjl : j < m.length * E.size := by have := (List.getElem?_eq_some_iff.1 hj).1; rwa [rowCells_len] at this
          obtain ⟨_, ys, _, u', _, hr, hyu, hc⟩ := hrow.all_cells hpos hjl
          rw [rowCells_at hjl hc] at hj
          cases hj
          exact hone hr _ (List.mem_of_getElem? hyu)
        · obtain ⟨g', off', ys, F', ha, hl', hr, _, hc⟩ := hrow.get hk
          cases ha
          refine ⟨ys, F', hr, fun j u hj => ?_⟩
          have hkm : k < m.length := (List.getElem?_eq_some_iff.1 hk).1
          have hjs : j < E.size := by rw [← hl']; exact (List.getElem?_eq_some_iff.1 hj).1
          have hin : k * E.size + j < m.length * E.size := by
            have : (k + 1) * E.size ≤ m.length * E.size := Nat.mul_le_mul_right _ hkm
            rw [Nat.succ_mul] at this
            omega
          refine rowCells_at hin ?_
          rw [← Nat.add_assoc]
          exact hc j u hj
    subst had
    obtain ⟨news, hnl, hnews, hn1, hel⟩ := hrc
    have hbyt : (l.length + m.length) * i.bytes ≤ 140737488355328 := by rw [hby]; exact Nat.le_trans (Nat.mul_le_mul (Nat.add_le_add hn hm) hbb) (by omega)
    rw [← hsize] at hnl ho1
    obtain ⟨v', w', hr, q1, q2, _, q4⟩ := run_append_own_at (P := Try.prog) w base t ty e i z i.size i.bytes ht hi hz rfl rfl (hzs.trans hsize.symm) (hsize ▸ hpos) v l.length cells ho1 p m.length cap news hnl hnews hn1 (by unfold maxLen; omega) hbyt hbase
    have hold := append_old base t ty e i z ht hi hz (hsize ▸ hpos) v l.length cells ho1 p m.length cap news hnl hnews hn1 (by unfold maxLen; omega) hbyt hr
    rw [hsize] at q1 hold
    have hkeep : ∀ k, k < w.heap.size → v.ownBlock ≠ some k → w'.heap[k]? = w.heap[k]? ∧ v'.ownBlock ≠ some k := fun k hk hv => by
      refine ⟨q2.block k hk (fun e => hv e.symm), ?_⟩
      rcases q4 with q4 | q4
      · rw [q4]; exact hv
      · rw [q4]; simp; omega
    have hfr : ∀ (H : Addr → Prop), (∀ a, H a → a.block < w.heap.size ∧ v.ownBlock ≠ some a.block) → ∀ a, H a → w'.cell? a = w.cell? a ∧ w'.frozen? a = w.frozen? a := fun H hH a ha =>
      ⟨World.cell?_of_block (w := w) (hkeep _ (hH a ha).1 (hH a ha).2).1, World.frozen?_of_block (w := w) (hkeep _ (hH a ha).1 (hH a ha).2).1⟩
    have hel0 : ∀ k x, l[k]? = some x → ∃ ys : List Value, (∀ j u, ys[j]? = some u → cells[k * E.size + j]? = some u) ∧ E.rd s w' ys x (Fk k) ∧ (∀ a, Fk k a → G a ∧ a.block < w.heap.size ∧ v.ownBlock ≠ some a.block) ∧ (s = true → ∀ k', k' < l.length → k' ≠ k → ∀ a, Fk k a → ¬ Fk k' a) := fun k x hk => by
      obtain ⟨ys, h1, h2, h3, h4⟩ := he k x hk
      exact ⟨ys, h1, E.frame h2 (hfr _ fun a ha => (h3 a ha).2), h3, h4⟩
    refine ⟨v', w', hr, ?_, ⟨cells, Fk, hold, fun k x hk => ?_⟩, (Below.refl _ _).grown q2 hbase (fun q hq => (ho1.lt q hq).1), hkeep, ?_⟩
    · obtain ⟨A2, cap2, Fm, hv2, hmx, hme⟩ := hrow
      cases hv2
      refine ⟨cells ++ news, fun k => if k < l.length then Fk k else Fm (k - l.length), by rw [List.length_append]; exact q1, fun k x hk => ?_⟩
      by_cases hkl : k < l.length
      · rw [List.getElem?_append_left hkl] at hk
        obtain ⟨ys, h1, h2, h3, h4⟩ := hel0 k x hk
        refine ⟨ys, fun j u hj => ?_, ?_, ?_, ?_⟩
        · have := h1 j u hj
          rw [List.getElem?_append_left (List.getElem?_eq_some_iff.1 this).1]; exact this
        · simp only [if_pos hkl]; exact h2
        · simp only [if_pos hkl]
          exact fun a ha => ⟨Or.inl (h3 a ha).1, Nat.lt_of_lt_of_le (h3 a ha).2.1 q2.size, (hkeep _ (h3 a ha).2.1 (h3 a ha).2.2).2⟩
        · intro hs k' hk' hne a ha
          simp only [if_pos hkl] at ha
          by_cases hk2 : k' < l.length
          · simp only [if_pos hk2]; exact h4 hs k' hk2 hne a ha
          · simp only [if_neg hk2]
            intro hf
            rw [List.length_append] at hk'
            obtain ⟨_, _, _, _, _, hFm, _⟩ := hme (k' - l.length) _ (List.getElem?_eq_getElem (by omega))
            exact hd hs a (hFm a hf) (h3 a ha).1
      · rw [List.getElem?_append_right (by omega)] at hk
        obtain ⟨g2, off2, ys, hA2, hrd, hFm, hcs, hap⟩ := hme _ _ hk
        obtain ⟨ys2, Fx2, hrd2, hn2⟩ := hel _ _ hk
        refine ⟨ys, fun j u hj => ?_, ?_, ?_, ?_⟩
        · have hkm : k - l.length < m.length := (List.getElem?_eq_some_iff.1 hk).1
          have hjs : j < E.size := by rw [← E.len hrd]; exact (List.getElem?_eq_some_iff.1 hj).1
          have hsub : k * E.size + j - l.length * E.size = (k - l.length) * E.size + j := by
            have h1 : k * E.size = (k - l.length) * E.size + l.length * E.size := by rw [← Nat.add_mul, Nat.sub_add_cancel (by omega)]
            omega
          have hge : l.length * E.size ≤ k * E.size + j := by
            have : l.length * E.size ≤ k * E.size := Nat.mul_le_mul_right _ (by omega)
            omega
          rw [List.getElem?_append_right (by omega), hcl, hsub]
          obtain ⟨u2, hu2⟩ : ∃ u2, ys2[j]? = some u2 := ⟨_, List.getElem?_eq_getElem (by rw [E.len hrd2]; exact hjs)⟩
          have h5 := hn2 j u2 hu2
          have hpe := hnews _ _ h5
          have hc := (hcs j u hj).1
          have hA3 := Option.some.inj hA2
          subst hA3
          rw [addr_add, ← Nat.add_assoc] at hpe
          rw [hc] at hpe
          rw [h5, hpe]
        · simp only [if_neg hkl]
          exact E.frame hrd (hfr _ fun a ha => hF a (hFm a ha))
        · simp only [if_neg hkl]
          exact fun a ha => ⟨Or.inr (hFm a ha), Nat.lt_of_lt_of_le (hF a (hFm a ha)).1 q2.size, (hkeep _ (hF a (hFm a ha)).1 (hF a (hFm a ha)).2).2⟩
        · intro hs k' hk' hne a ha
          simp only [if_neg hkl] at ha
          by_cases hk2 : k' < l.length
          · simp only [if_pos hk2]
            obtain ⟨_, _, _, q3, _⟩ := hel0 k' _ (List.getElem?_eq_getElem hk2)
            exact fun hf => hd hs a (hFm a ha) (q3 a hf).1
          · simp only [if_neg hk2]
            rw [List.length_append] at hk'
            exact (hap hs).2 (k' - l.length) (by omega) (by omega) a ha
    · obtain ⟨ys, h1, h2, h3, h4⟩ := hel0 k x hk
      exact ⟨ys, h1, h2, fun a ha => ⟨(h3 a ha).1, Nat.lt_of_lt_of_le (h3 a ha).2.1 q2.size, (h3 a ha).2.2⟩, h4⟩
    · rcases q4 with q4 | q4
      · exact Or.inl q4
      · exact Or.inr fun k hk => by rw [q4] at hk; cases hk; simp
/-- The same, at an operation of a region that draws its order. -/
theorem step_append_rows {α : Type} (E : Rep α) {ops : Array Oper} {o : Oper} {a : Act} {K : Act → World → Prop} {Q : Exit → Act → World → Prop} {Z : Prop} (w : World) (hgd : o.guard = none) (sl y : Operand) (t e : TypeId) (i : TypeInfo) (z : Value) (bytes : Nat)
    (ho : o.op = .call { callee := .builtin .append, args := #[sl, y], argTypes := #[t, t] }) (ht : Try.prog.underlying t = some (.slice e)) (hi : Try.prog.info? e = some i) (hz : i.zero = some z) (hsize : i.size = E.size) (hby : i.bytes = bytes) (hzs : z.cells.size = E.size) (hpos : 0 < E.size)
    (hone : ∀ {s : Bool} {w : World} {ys : List Value} {x : α} {F : Addr → Prop}, E.rd s w ys x F → ∀ u ∈ ys, u.oneCell' = true)
    (s : Bool) (base : Nat) (v : Value) (l : List α) (G : Addr → Prop) (hown : OwnRd E e s base w v l G) (A : Option Addr) (n cap : Nat) (m : List α) (F : Addr → Prop) (hrow : RowRd E s w (.slice A n cap) m F)
    (hF : ∀ a, F a → a.block < w.heap.size ∧ v.ownBlock ≠ some a.block) (hd : s = true → ∀ a, F a → ¬ G a) (hn : l.length ≤ 1000000) (hm : m.length ≤ 1000000) (hbb : bytes ≤ 100) (hbase : base ≤ w.heap.size)
    (hs : a.eval sl = v) (hy : a.eval y = .slice A n cap)
    (h : ∀ v' w', OwnRd E e s base w' v' (l ++ m) (fun a => G a ∨ F a) → OwnRd E e s base w' v l G → Below base w w' → (∀ k, k < w.heap.size → v.ownBlock ≠ some k → w'.heap[k]? = w.heap[k]? ∧ v'.ownBlock ≠ some k) → (v'.ownBlock = v.ownBlock ∨ ∀ k, v'.ownBlock = some k → w.heap.size ≤ k) → K (a.put o.dst v') w') :
    if Region.wanted o (yielded ops a.tmps) = true then Oper.wp Try.prog o a w K Q else Z := by
  have hw : Region.wanted o (yielded ops a.tmps) = true := by simp [Region.wanted, hgd]
  rw [if_pos hw]
  obtain ⟨v', w', hr, h1, h2, h3, h4, h5⟩ := run_append_rows E (w := w) t o.type e i z bytes ht hi hz hsize hby hzs hpos hone s base v l G hown A n cap m F hrow hF hd hn hm hbb hbase
  unfold Oper.wp execOp
  simp only [ho, resolve, invoke, builtin, Sem.run_bind, Sem.run_pure, Result.andThen_ok, List.map_toArray, List.map_cons, List.map_nil, hs, hy, hr]
  exact h v' w' h1 h2 h3 h4 h5
end Go.Proofs.Ytlkhknoaifbajaa

/- The laws' toLink. -/
namespace Go.Proofs.Ytlkhknoaifbajaa
set_option maxRecDepth 100000
open Go.RowKit Go.Sort
set_option linter.unusedVariables false
set_option linter.unusedSimpArgs false

set_option maxHeartbeats 8000000 in
theorem toLink_any (x : DLink) (F : Addr → Prop) (w : World) (hm : rLink.sz x ≤ 1048576) :
    Calls Try.prog 106 #[.agg #[.int .u8 (x.In.toNat : Int), .int .u8 (x.Out.toNat : Int)]] w fun e w' => e = .returned (.agg #[.int .u8 (x.In.toNat : Int), .int .u8 (x.Out.toNat : Int)]) ∧ Below w.heap.size w w' := by
  generalize x.In = y0 at *
  generalize x.Out = y1 at *
  go_enter Try.func106, Try.ntmps106
  go_wp2
  refine bodyPost_ret (v := .agg #[.int .u8 (y0.toNat : Int), .int .u8 (y1.toNat : Int)]) (results_cell_row rfl _ _ (w.heap.size + 1) 65 _ (0, 0) _ rfl ((Below.heap_alloc _ _ _ (by simp)).trans (by have := heap_alloc_new (w.alloc (.cells #[.int .u8 (y0.toNat : Int), .int .u8 (y1.toNat : Int)] 110)) (.cells #[.int .u8 (y0.toNat : Int), .int .u8 (y1.toNat : Int)] 65); rwa [World.size_alloc] at this)) Try.underlying65 rfl (by kernel_rfl)) rfl ⟨rfl, ?_⟩
  exact (((Below.refl _ _).alloc (Nat.le_refl _) _).alloc (by simp) _).alloc (by simp; omega) _
end Go.Proofs.Ytlkhknoaifbajaa

/- The laws' toLinkS. -/
namespace Go.Proofs.Ytlkhknoaifbajaa
set_option maxRecDepth 100000
open Go.RowKit Go.Sort
set_option linter.unusedVariables false
set_option linter.unusedSimpArgs false

theorem Try.infoTLink : (Try.prog.info? 65).map (fun i => (i.zero, i.size, i.bytes)) = some (some (.agg #[.int .u8 0, .int .u8 0]), 2, 2) := by kernel_rfl
set_option maxHeartbeats 2000000 in
theorem toLinkS_any (v : Value) (l : List DLink) (F : Addr → Prop) (w : World) (hm : szRow rLink l ≤ 1048576) (hv : RowRd rLink false w v l F) :
    Calls Try.prog 90 #[v] w (OwnPost rLink l w) := by
  have hml := Nat.le_trans (szRow_len rLink l) hm
  obtain ⟨A, cap, rfl⟩ := hv.form
  have HV := Lib.hid hv
  have HSZ : Hid (∀ k x, l[k]? = some x → rLink.sz x ≤ 1048576) := fun k x h => Nat.le_trans (szRow_at _ _ _ h) hm
  clear hv hm
  have HX : Hid (∀ k, k < l.length → ∃ x, l[k]? = some x) := fun k hk => ⟨_, List.getElem?_eq_getElem hk⟩
  have H0 := Lib.hid (cpTo_zero zLink l)
  have HA := Lib.hid (cpTo_all zLink l)
  have HAT := Lib.hid (cpTo_at zLink l)
  have HST : Hid (∀ k x, l[k]? = some x → (cpTo zLink l k).set k x = cpTo zLink l (k + 1)) := fun k x h => cpTo_step _ _ _ h
  have HP : Hid (∀ (u : Value) (w' : World), RowRd rLink true w' u l (fun a => w.heap.size ≤ a.block) → Below w.heap.size w w' → OwnPost rLink l w (.returned u) w') := fun u w' h1 h2 => ⟨u, rfl, h1, h2⟩
  generalize hll : l.length = n at *
  clear hll
  obtain ⟨i0, hi, hz0, hz1, hz2⟩ := info_parts Try.infoTLink
  go_enter Try.func90, Try.ntmps90
  go_wp2_with (at_make; refine wpList_make_full _ rfl _ _ 24 rfl w.heap.size 65 i0 (.agg #[.int .u8 0, .int .u8 0]) 2 Try.underlying24 hi hz0 hz1 .i64 .i64 _ _ n rfl rfl rfl rfl (by rw [hz2]; omega) (by unfold maxLen; omega) (Nat.le_refl _) ?_; intro w1 hown1 hgrow1)
  have hb1 : Below w.heap.size w w1 := (Below.refl _ _).grown hgrow1 (Nat.le_refl _) (fun _ h => by cases h)
  have HO1 : Hid (RowRd rLink true w1 (.slice (some ⟨w.heap.size, 0, none⟩) n n) (cpTo zLink l 0) (fun a => w.heap.size ≤ a.block)) := by
    unfold Hid
    rw [H0.out]
    rw [show (Value.cells (.agg #[.int .u8 0, .int .u8 0])) = #[.int .u8 0, .int .u8 0] from rfl] at hown1
    have hlr : (List.replicate n (zLink : DLink)).length = n := List.length_replicate
    refine (RowRd.of_flat (E := rLink) (l := List.replicate n zLink) (base := w.heap.size) (e := 65) (cells := (madeCells #[.int .u8 0, .int .u8 0] (n * 2)).toList) (by rw [hlr]; exact hown1) (by rw [hlr]; omega) ?_).mono (fun a ha => ha.1)
    intro k x hk
    rw [List.getElem?_replicate] at hk
    split at hk
    · cases hk
      refine ⟨[.int .u8 0, .int .u8 0], ?_, rLink_mk (x := zLink) ⟩
      intro j u hj
      have hjn : j < 2 := (List.getElem?_eq_some_iff.1 hj).1
      rw [show rLink.size = 2 from rfl, made_at _ _ _ (by omega) (by decide), show (#[.int .u8 0, .int .u8 0] : Array Value).size = 2 from rfl, show (k * 2 + j) % 2 = j by omega]
      simpa using hj
    · cases hk
  have HB1 := Lib.hid hb1
  clear hown1 hgrow1 hb1
  go_wp2
  go_loopw [4] (fun i wr => ∃ (k : Nat), k ≤ n ∧ i = .int .i64 k ∧ RowRd rLink true wr (.slice (some ⟨w.heap.size, 0, none⟩) n n) (cpTo zLink l k) (fun a => w.heap.size ≤ a.block) ∧ Below w.heap.size w wr) (fun i _ => n - (intOf i).toNat)
  case atStart => exact ⟨0, by omega, rfl, HO1.out, HB1.out⟩
  case round =>
    obtain ⟨k, hk, rfl, hrow, hbe⟩ := hrel
    have HBE := Lib.hid hbe
    clear hbe
    by_cases hkl : k < n
    · obtain ⟨x, hx⟩ := HX.out k hkl
      have HSX := Lib.hid (HST.out k x hx)
      have hszx := HSZ.out k x hx
      obtain ⟨sg, so, xs, Fs, rfl, _, hsr, _, hsc⟩ := (HV.out.kept HBE.out).get hx
      rw [show rLink.size = 2 from rfl] at hsc
      have ee := rLink_rd hsr
      subst ee
      have c0 := hsc 0 _ rfl
      have c1 := hsc 1 _ rfl
      simp only [Nat.add_zero] at c0
      clear hsc hsr
      have hrow2 := hrow.tight
      clear hrow
      have HC := Lib.hid (toLink_any x Fs wr hszx)
      have HR2 := Lib.hid hrow2
      clear hrow2
      go_wp2_with fail
      refine HC.out.mono ?_
      rintro e w2 ⟨rfl, hb2⟩
      have hrow2 := HR2.out.kept hb2
      obtain ⟨g, off, ys, Fk, hge, hrd, hel, hFk, hcl, hput⟩ := hrow2.open (HAT.out k hkl)
      cases hge
      rw [show rLink.size = 2 from rfl] at hel hcl hput
      simp only [Nat.zero_add] at hel hput
      have ee := rLink_rd hrd
      subst ee
      have d0 := hel.cell 0 rfl
      have f0 := hel.free 0 (by decide)
      have d1 := hel.cell 1 rfl
      have f1 := hel.free 1 (by decide)
      simp only [Nat.zero_add, Nat.add_zero] at d0 f0 d1 f1
      have hs0 := hel.set 0 (by decide) (.int .u8 (x.In.toNat : Int))
      simp only [List.set, Nat.zero_add, Nat.add_zero] at hs0
      have hs1 := hs0.set 1 (by decide) (.int .u8 (x.Out.toNat : Int))
      simp only [List.set, Nat.zero_add, Nat.add_zero] at hs1
      have HBB := Lib.hid (((HBE.out.trans (hb2.mono HBE.out.size)).setCell (p := ⟨w.heap.size, k * 2, none⟩) (Nat.le_refl _) (.int .u8 (x.In.toNat : Int))).setCell (p := ⟨w.heap.size, k * 2 + 1, none⟩) (Nat.le_refl _) (.int .u8 (x.Out.toNat : Int)))
      have HNEW := Lib.hid ((hput _ _ x (fun _ => False) hs1 (rLink_mk (x := x) ) (fun a h => h.elim)).mono (fun a h => h.elim (fun h => h.1) (fun h => h.elim)))
      rw [HSX.out] at HNEW
      clear hput hel hs0 hs1 hb2 hrd hFk hcl
      try clear hrow2
      go_wp2
      go_roundw
      case rel => exact ⟨k + 1, by omega, by go_num, HNEW.out, HBB.out⟩
      case measure => simp [intOf]; omega
    · obtain rfl : k = n := by omega
      rw [HA.out] at hrow
      have HRR := Lib.hid hrow
      clear hrow
      go_wp2
      go_ret
      exact HP.out _ _ HRR.out HBE.out
end Go.Proofs.Ytlkhknoaifbajaa

/- Neighbours and distances of forms: plain mathematics. -/
namespace Go.Proofs.Ytlkhknoaifbajaa
set_option maxRecDepth 100000
open Go.RowKit M

theorem sndB_sz (j : Nat) : (sndB j).size = 1 := rfl
def hasB (l : List ByteArray) (x : ByteArray) : Bool := l.any fun y => y.toList == x.toList
def addN (l : List ByteArray) (x : ByteArray) : List ByteArray := if hasB l x then l else l ++ [x]
theorem addN_yes {l : List ByteArray} {x : ByteArray} (h : hasB l x = true) : addN l x = l := if_pos h
theorem addN_no {l : List ByteArray} {x : ByteArray} (h : hasB l x = false) : addN l x = l ++ [x] := if_neg (by simp [h])
theorem addN_len (l : List ByteArray) (x : ByteArray) : (addN l x).length ≤ l.length + 1 := by
  unfold addN; split
  · omega
  · simp
/-- A sound put in, put in the place of another; a sound taken away. -/
def insB (s : ByteArray) (i j : Nat) : ByteArray := s.extract 0 i ++ sndB j ++ s.extract i s.size
def subB (s : ByteArray) (i j : Nat) : ByteArray := s.extract 0 i ++ sndB j ++ s.extract (i + 1) s.size
def delB (s : ByteArray) (i : Nat) : ByteArray := s.extract 0 i ++ s.extract (i + 1) s.size
def nbSub (s : ByteArray) (i : Nat) (l : List ByteArray) (j : Nat) : List ByteArray :=
  if i < s.size then (if (subB s i j).toList == s.toList then l else addN l (subB s i j)) else l
def nbJ (s : ByteArray) (i : Nat) (l : List ByteArray) : Nat → List ByteArray
  | 0 => l
  | j + 1 => nbSub s i (addN (nbJ s i l j) (insB s i j)) j
def nbI (s : ByteArray) (i : Nat) (l : List ByteArray) : List ByteArray := if i < s.size then addN (nbJ s i l 7) (delB s i) else nbJ s i l 7
def nbTo (s : ByteArray) : Nat → List ByteArray
  | 0 => []
  | i + 1 => nbI s i (nbTo s i)
theorem nbSub_end {s : ByteArray} {i : Nat} (l : List ByteArray) (j : Nat) (h : ¬ i < s.size) : nbSub s i l j = l := if_neg h
theorem nbSub_same {s : ByteArray} {i : Nat} {l : List ByteArray} {j : Nat} (h : i < s.size) (he : ((subB s i j).toList == s.toList) = true) : nbSub s i l j = l := by
  unfold nbSub; rw [if_pos h, if_pos he]
theorem nbSub_has {s : ByteArray} {i : Nat} {l : List ByteArray} {j : Nat} (h : i < s.size) (he : ((subB s i j).toList == s.toList) = false) (hh : hasB l (subB s i j) = true) : nbSub s i l j = l := by
  unfold nbSub; rw [if_pos h, if_neg (by simp [he]), addN_yes hh]
theorem nbSub_new {s : ByteArray} {i : Nat} {l : List ByteArray} {j : Nat} (h : i < s.size) (he : ((subB s i j).toList == s.toList) = false) (hh : hasB l (subB s i j) = false) : nbSub s i l j = l ++ [subB s i j] := by
  unfold nbSub; rw [if_pos h, if_neg (by simp [he]), addN_no hh]
def nbL (s : ByteArray) : List ByteArray := if isFm s = true ∧ s.size < 8 then nbTo s (s.size + 1) else []
theorem nbSub_len (s : ByteArray) (i : Nat) (l : List ByteArray) (j : Nat) : (nbSub s i l j).length ≤ l.length + 1 := by
  unfold nbSub
  split
  · split
    · omega
    · exact addN_len _ _
  · omega
theorem nbJ_len (s : ByteArray) (i : Nat) (l : List ByteArray) (j : Nat) : (nbJ s i l j).length ≤ l.length + 2 * j := by
  induction j with
  | zero => simp [nbJ]
  | succ j ih =>
    have h1 := nbSub_len s i (addN (nbJ s i l j) (insB s i j)) j
    have h2 := addN_len (nbJ s i l j) (insB s i j)
    show (nbSub s i (addN (nbJ s i l j) (insB s i j)) j).length ≤ _
    omega
theorem nbI_len (s : ByteArray) (i : Nat) (l : List ByteArray) : (nbI s i l).length ≤ l.length + 15 := by
  have h1 := nbJ_len s i l 7
  have h2 := addN_len (nbJ s i l 7) (delB s i)
  unfold nbI
  split <;> omega
theorem nbTo_len (s : ByteArray) (i : Nat) : (nbTo s i).length ≤ 15 * i := by
  induction i with
  | zero => simp [nbTo]
  | succ i ih =>
    have := nbI_len s i (nbTo s i)
    show (nbI s i (nbTo s i)).length ≤ _
    omega
theorem nbL_len (s : ByteArray) : (nbL s).length ≤ 1000000 := by
  unfold nbL
  split
  · have := nbTo_len s (s.size + 1); omega
  · simp
/-- The distance of the first i bytes of one text and the first k of another. -/
def dst (a b : ByteArray) : Nat → Nat → Nat
  | 0, k => k
  | i + 1, 0 => i + 1
  | i + 1, k + 1 => min (min (dst a b i (k + 1)) (dst a b (i + 1) k) + 1) (if bAt a i = bAt b k then dst a b i k else dst a b i k + 1)
theorem dst_le (a b : ByteArray) : ∀ i k, dst a b i k ≤ i + k
  | 0, k => by simp [dst]
  | i + 1, 0 => by simp [dst]
  | i + 1, k + 1 => by
    have h1 := dst_le a b i (k + 1)
    have h2 := dst_le a b (i + 1) k
    have h3 := dst_le a b i k
    simp only [dst]
    split <;> omega
/-- A row of distances, its first j places. -/
def dRow (a b : ByteArray) (i j : Nat) : List Int := (List.range j).map fun k => (dst a b i k : Int)
theorem dRow_len (a b : ByteArray) (i j : Nat) : (dRow a b i j).length = j := by simp [dRow]
theorem dRow_step (a b : ByteArray) (i j : Nat) : dRow a b i (j + 1) = dRow a b i j ++ [(dst a b i j : Int)] := by
  unfold dRow; rw [List.range_succ, List.map_append]; rfl
theorem dRow_at (a b : ByteArray) (i j k : Nat) (h : k < j) : (dRow a b i j).getD k 0 = (dst a b i k : Int) := by
  unfold dRow; rw [List.getD_eq_getElem?_getD, List.getElem?_map, List.getElem?_range h]; rfl
def distV (a b : ByteArray) : Int := if isFm a = true ∧ isFm b = true then (dst a b a.size b.size : Int) else -1
end Go.Proofs.Ytlkhknoaifbajaa

/- What is generated are candidates; their edits are at least the distance of both sides: plain mathematics. -/
namespace Go.Proofs.Ytlkhknoaifbajaa
set_option maxRecDepth 100000
open Go.RowKit M
set_option linter.unusedVariables false
set_option linter.unusedSimpArgs false

theorem fm_snd {s : ByteArray} (h : isFm s = true) : ∀ b ∈ s.data.toList, isSnd (b.toNat : Int) = true := by
  unfold isFm at h
  rw [Bool.and_eq_true] at h
  intro b hb
  obtain ⟨i, hi, rfl⟩ := List.getElem_of_mem hb
  have hi2 : i < s.size := by simpa using hi
  cases hs : isSnd ((s.data.toList[i]).toNat : Int) with
  | true => rfl
  | false =>
    have := l2S_not i hi2 hs
    rw [this] at h
    exact absurd h.1 (by decide)
theorem fm_of {l : List UInt8} (h : ∀ b ∈ l, isSnd (b.toNat : Int) = true) (hl : l.length ≤ 8) : isFm ⟨l.toArray⟩ = true := by
  have hz : (⟨l.toArray⟩ : ByteArray).size = l.length := by simp [ByteArray.size]
  unfold isFm
  rw [l2S_all fun i hi => ?_, hz]
  · simp; omega
  · apply h
    have : i < l.length := by rw [hz] at hi; exact hi
    have e : (⟨l.toArray⟩ : ByteArray)[i] = l[i] := rfl
    rw [e]
    exact List.getElem_mem this
theorem mem_inL {l : List DLink} {b : UInt8} : b ∈ inL l ↔ ∃ x ∈ l, x.In = b ∧ ¬ b = 0 := by
  unfold inL
  rw [List.mem_filter, List.mem_map]
  constructor
  · rintro ⟨⟨x, hx, rfl⟩, h⟩; exact ⟨x, hx, rfl, by simpa using h⟩
  · rintro ⟨x, hx, rfl, h⟩; exact ⟨⟨x, hx, rfl⟩, by simpa using h⟩
theorem mem_outL {l : List DLink} {b : UInt8} : b ∈ outL l ↔ ∃ x ∈ l, x.Out = b ∧ ¬ b = 0 := by
  unfold outL
  rw [List.mem_filter, List.mem_map]
  constructor
  · rintro ⟨⟨x, hx, rfl⟩, h⟩; exact ⟨x, hx, rfl, by simpa using h⟩
  · rintro ⟨x, hx, rfl, h⟩; exact ⟨⟨x, hx, rfl⟩, by simpa using h⟩
theorem okG_okL {x : DLink} (h : okG x) (hi : ¬ x.In = 0 → isSnd (x.In.toNat : Int) = true) : okL x = true := by
  unfold okL okI
  by_cases h0 : x.In = 0
  · rw [if_pos ((u8_zero _).2 h0)]
    rcases h.1 h0 with e | e <;> rw [e] <;> decide
  · rw [if_neg (fun e => h0 ((u8_zero _).1 e))]
    rcases h.2 h0 with e | e | ⟨ho, e⟩
    · rw [if_pos (Or.inr ((u8_eq _ _).2 e))]; exact hi h0
    · rw [if_pos (Or.inl ((u8_zero _).2 e))]; exact hi h0
    · obtain ⟨h1, h2, h3, h4, _⟩ := swap_ne ho
      have e2 : (x.Out.toNat : Int) = swapV (x.In.toNat : Int) := by rw [e]; exact byt_toNat _ h3 h4
      rw [e2, if_neg (by rintro (e | e); exact h2 e; exact h1 e), ho]
      simp
theorem okL_okG {x : DLink} (h : okL x = true) (hi : x.In = 0 → x.Out = 116 ∨ x.Out = 105) : okG x := by
  refine ⟨hi, fun h0 => ?_⟩
  unfold okL okI at h
  rw [if_neg (fun e => h0 ((u8_zero _).1 e))] at h
  by_cases h1 : (x.Out.toNat : Int) = 0 ∨ (x.Out.toNat : Int) = (x.In.toNat : Int)
  · rcases h1 with e | e
    · exact Or.inr (Or.inl ((u8_zero _).1 e))
    · exact Or.inl ((u8_eq _ _).1 e)
  · rw [if_neg h1, Bool.and_eq_true] at h
    have e : (x.Out.toNat : Int) = swapV (x.In.toNat : Int) := by simpa using h.2
    exact Or.inr (Or.inr ⟨h.1, by rw [← e, byt_u8]⟩)
theorem okG_out {x : DLink} (h : okG x) (hi : ¬ x.In = 0 → isSnd (x.In.toNat : Int) = true) (ho : ¬ x.Out = 0) : isSnd (x.Out.toNat : Int) = true := by
  by_cases h0 : x.In = 0
  · rcases h.1 h0 with e | e <;> rw [e] <;> decide
  · rcases h.2 h0 with e | e | ⟨hob, e⟩
    · rw [e]; exact hi h0
    · exact absurd e ho
    · obtain ⟨h1, h2, h3, h4, h5⟩ := swap_ne hob
      rw [e, byt_toNat _ h3 h4]; exact h5
theorem okG_some {x : DLink} (h : okG x) (h0 : x.In = 0) : ¬ x.Out = 0 := by
  rcases h.1 h0 with e | e <;> rw [e] <;> decide
theorem sides_len : ∀ l : List DLink, (∀ x ∈ l, okG x) → l.length ≤ (inL l).length + edits l ∧ (outL l).length ≤ (inL l).length + edits l
  | [], _ => by simp [inL, outL, edits]
  | x :: l, h => by
    have ih := sides_len l (fun y hy => h y (by simp [hy]))
    have hx := okG_some (h x (by simp))
    rw [inL_cons, outL_cons, edits_cons, List.length_append, List.length_append, List.length_cons]
    by_cases h2 : x.In = 0
    · have h0 := hx h2
      have h1 : ¬ x.In = x.Out := fun e => h0 (e.symm.trans h2)
      rw [if_neg h1, if_pos h2, if_neg h0]; simp; omega
    · rw [if_neg h2]
      by_cases h0 : x.Out = 0
      · have h1 : ¬ x.In = x.Out := fun e => h2 (e.trans h0)
        rw [if_neg h1, if_pos h0]; simp; omega
      · rw [if_neg h0]
        by_cases h1 : x.In = x.Out
        · rw [if_pos h1]; simp; omega
        · rw [if_neg h1]; simp; omega
/-- What is generated of a form is a candidate of it. -/
theorem gen_cd {s : ByteArray} {n : Nat} {l : List DLink} (hf : isFm s = true) (hn : s.size + n ≤ 8) (h : isG n s.data.toList l) : isCd l = true := by
  obtain ⟨h1, h2, h3⟩ := h
  have hs := fm_snd hf
  have hin : ∀ x ∈ l, ¬ x.In = 0 → isSnd (x.In.toNat : Int) = true := fun x hx h0 => hs _ (by rw [← h2]; exact mem_inL.2 ⟨x, hx, rfl, h0⟩)
  obtain ⟨q1, q2⟩ := sides_len l h1
  have hl : (inL l).length = s.size := by rw [h2]; simp
  unfold isCd
  rw [Bool.and_eq_true, Bool.and_eq_true, Bool.and_eq_true]
  refine ⟨List.all_eq_true.2 fun x hx => okG_okL (h1 x hx) (hin x hx), by simp; omega, ?_, ?_⟩
  · rw [h2]; exact hf
  · refine fm_of (fun b hb => ?_) (by omega)
    obtain ⟨x, hx, rfl, h0⟩ := mem_outL.1 hb
    exact okG_out (h1 x hx) (hin x hx) h0
def insOk (l : List DLink) : Bool := l.all fun x => !(decide (x.In = 0) && !decide (x.Out = 116) && !decide (x.Out = 105))
theorem insOk_iff (l : List DLink) : insOk l = true ↔ ∀ x ∈ l, x.In = 0 → x.Out = 116 ∨ x.Out = 105 := by
  unfold insOk
  rw [List.all_eq_true]
  constructor
  · intro h x hx h0
    have := h x hx
    simp [h0] at this
    exact this
  · intro h x hx
    by_cases h0 : x.In = 0
    · rcases h x hx h0 with e | e <;> simp [h0, e]
    · simp [h0]
/-- Whether a candidate is one of those that are generated. -/
theorem gen_iff {s : ByteArray} {n : Nat} {l : List DLink} (hf : isFm s = true) (hn : s.size + n ≤ 8) : l ∈ genL n s.data.toList ↔ (isCd l = true ∧ inL l = s.data.toList ∧ edits l ≤ n ∧ insOk l = true) := by
  have hs : ∀ b ∈ s.data.toList, ¬ b = 0 := fun b hb => snd_pos (fm_snd hf b hb)
  rw [genL_mem n _ hs]
  constructor
  · intro h
    exact ⟨gen_cd hf hn h, h.2.1, h.2.2, (insOk_iff l).2 fun x hx h0 => (h.1 x hx).1 h0⟩
  · rintro ⟨h1, h2, h3, h4⟩
    exact ⟨fun x hx => okL_okG (isCd_ok h1 hx) ((insOk_iff l).1 h4 x hx), h2, h3⟩
/-- The edits are at least the distance of both sides. -/
theorem dst_ins' (a b : ByteArray) (i k : Nat) : dst a b i (k + 1) ≤ dst a b i k + 1 := by
  cases i with
  | zero => simp [dst]
  | succ i => simp only [dst]; omega
theorem dst_del' (a b : ByteArray) (i k : Nat) : dst a b (i + 1) k ≤ dst a b i k + 1 := by
  cases k with
  | zero => cases i <;> simp [dst]
  | succ k => simp only [dst]; omega
theorem dst_sub' (a b : ByteArray) (i k : Nat) : dst a b (i + 1) (k + 1) ≤ dst a b i k + 1 := by
  simp only [dst]; split <;> omega
theorem dst_match' (a b : ByteArray) (i k : Nat) (h : bAt a i = bAt b k) : dst a b (i + 1) (k + 1) ≤ dst a b i k := by
  simp only [dst]; rw [if_pos h]; omega
theorem edits_snoc (l : List DLink) (x : DLink) : edits (l ++ [x]) = edits l + (if x.In = x.Out then 0 else 1) := by
  unfold edits
  rw [List.filter_append, List.length_append]
  by_cases h : x.In = x.Out <;> simp [h]
theorem inL_app (l m : List DLink) : inL (l ++ m) = inL l ++ inL m := by unfold inL; rw [List.map_append, List.filter_append]
theorem outL_app (l m : List DLink) : outL (l ++ m) = outL l ++ outL m := by unfold outL; rw [List.map_append, List.filter_append]
theorem inL_one (x : DLink) : inL [x] = if x.In = 0 then [] else [x.In] := by rw [inL_cons]; simp [inL]
theorem outL_one (x : DLink) : outL [x] = if x.Out = 0 then [] else [x.Out] := by rw [outL_cons]; simp [outL]
theorem bAt_app {l m : List UInt8} {b : UInt8} : bAt ⟨(l ++ b :: m).toArray⟩ l.length = (b.toNat : Int) := by
  unfold bAt
  simp
theorem edits_dst : ∀ (n : Nat) (l m : List DLink), l.length = n → dst ⟨(inL (l ++ m)).toArray⟩ ⟨(outL (l ++ m)).toArray⟩ (inL l).length (outL l).length ≤ edits l
  | 0, l, m, h => by
    obtain rfl : l = [] := List.eq_nil_of_length_eq_zero h
    simp [inL, outL, edits, dst]
  | n + 1, l, m, h => by
    obtain ⟨k, x, rfl⟩ : ∃ k x, l = k ++ [x] := by
      rcases List.eq_nil_or_concat l with rfl | ⟨k, x, rfl⟩
      · simp at h
      · exact ⟨k, x, by simp⟩
    have ih := edits_dst n k (x :: m) (by simpa using h)
    have e : k ++ [x] ++ m = k ++ (x :: m) := by simp
    rw [e, edits_snoc]
    rw [inL_app k [x], outL_app k [x], inL_one, outL_one, List.length_append, List.length_append]
    have ha : ¬ x.In = 0 → bAt ⟨(inL (k ++ x :: m)).toArray⟩ (inL k).length = (x.In.toNat : Int) := fun h0 => by
      rw [inL_app, inL_cons, if_neg h0]; exact bAt_app
    have hb : ¬ x.Out = 0 → bAt ⟨(outL (k ++ x :: m)).toArray⟩ (outL k).length = (x.Out.toNat : Int) := fun h0 => by
      rw [outL_app, outL_cons, if_neg h0]; exact bAt_app
    generalize (⟨(inL (k ++ x :: m)).toArray⟩ : ByteArray) = a at *
    generalize (⟨(outL (k ++ x :: m)).toArray⟩ : ByteArray) = b at *
    by_cases h0 : x.In = 0
    · rw [if_pos h0]
      by_cases h1 : x.Out = 0
      · rw [if_pos h1, if_pos (h0.trans h1.symm)]; simpa using ih
      · rw [if_neg h1, if_neg (fun e => h1 (e.symm.trans h0))]
        have := dst_ins' a b (inL k).length (outL k).length
        simp; omega
    · rw [if_neg h0]
      by_cases h1 : x.Out = 0
      · rw [if_pos h1, if_neg (fun e => h0 (e.trans h1))]
        have := dst_del' a b (inL k).length (outL k).length
        simp; omega
      · rw [if_neg h1]
        by_cases h2 : x.In = x.Out
        · rw [if_pos h2]
          have := dst_match' a b (inL k).length (outL k).length (by rw [ha h0, hb h1, h2])
          simp; omega
        · rw [if_neg h2]
          have := dst_sub' a b (inL k).length (outL k).length
          simp; omega
theorem dst_edits (l : List DLink) : dst ⟨(inL l).toArray⟩ ⟨(outL l).toArray⟩ (inL l).length (outL l).length ≤ edits l := by
  have := edits_dst l.length l [] rfl
  simpa using this
end Go.Proofs.Ytlkhknoaifbajaa

/- SwapVoice of both: what it answers. -/
namespace Go.Proofs.Ytlkhknoaifbajaa
set_option maxRecDepth 100000
open Go.RowKit

theorem implSwap_any (x : Int) (w : World) :
    Calls Try.prog 108 #[.int .u8 x] w fun e w' => e = .returned (.tuple #[.int .u8 (swapV x), .bool (isObs x)]) ∧ w = w' := by
  go_enter Try.func108, Try.ntmps108
  go_wp2
  all_goals
    go_ret2
    refine ⟨?_, rfl⟩
    unfold swapV isObs
    simp_all
theorem specSwap_any (x : Int) (w : World) :
    Calls Try.prog 68 #[.int .u8 x] w fun e w' => e = .returned (.tuple #[.int .u8 (swapV x), .bool (isObs x)]) ∧ w = w' := by
  go_enter Try.func68, Try.ntmps68
  go_wp2
  all_goals
    go_ret2
    refine ⟨?_, rfl⟩
    unfold swapV isObs
    simp_all
end Go.Proofs.Ytlkhknoaifbajaa

/- The model's IsForm: what it answers. -/
namespace Go.Proofs.Ytlkhknoaifbajaa
set_option maxRecDepth 100000
open Go.RowKit M

theorem specFm_any (s : ByteArray) (w : World) (hs : s.size ≤ maxLen) :
    Calls Try.prog 70 #[.string s] w fun e w' => e = .returned (.bool (isFm s)) ∧ w = w' := by
  have HM := Lib.hid hs
  clear hs
  go_enter Try.func70, Try.ntmps70
  go_wp2_with fail
  refine (specL2_any _ _ HM.out).mono ?_
  rintro e w2 ⟨rfl, rfl⟩
  go_wp2
  all_goals
    go_ret
    exact ⟨ret_bool (by unfold isFm; simp_all), rfl⟩
end Go.Proofs.Ytlkhknoaifbajaa

/- strings.IndexByte and the program's IsSound: what they answer. -/
namespace Go.Proofs.Ytlkhknoaifbajaa
set_option maxRecDepth 100000
open Go.RowKit

set_option maxRecDepth 100000 in
/-- strings.IndexByte. -/
theorem idxByte (s : ByteArray) (c : Int) (w : World) :
    Calls Try.prog 109 #[.string s, .int .u8 c] w fun e w' => e = .returned (.int .i64 (Lib.indexByte s.data.toList c.toNat.toUInt8)) ∧ w = w' := by
  go_enter Try.func109, Try.ntmps109
  go_wp2
  rw [run_callFunc_extern Try.func113 (by kernel_rfl) (by kernel_rfl) (by kernel_rfl) (e := Extern.BytealgIndexByte.indexByte) (by kernel_rfl), Lib.run_indexByteString]
  simp only [Result.andThen]
  rw [Oper.upon_value]
  go_wp2
  go_ret
  exact ⟨rfl, rfl⟩
theorem implIsSound_any (x : Int) (w : World) (h0 : 0 ≤ x) (h1 : x < 256) :
    Calls Try.prog 96 #[.int .u8 x] w fun e w' => e = .returned (.bool (isSnd x)) ∧ w = w' := by
  have H := Lib.hid (snd_index x h0 h1)
  clear h0 h1
  go_enter Try.func96, Try.ntmps96
  go_wp2_with fail
  refine (idxByte _ _ _).mono ?_
  rintro e w1 ⟨rfl, rfl⟩
  go_wp2
  go_ret
  exact ⟨ret_bool H.out, rfl⟩
end Go.Proofs.Ytlkhknoaifbajaa

/- The program's IsForm: what it answers. -/
namespace Go.Proofs.Ytlkhknoaifbajaa
set_option maxRecDepth 100000
open Go.RowKit M

theorem byte_in (b : UInt8) : 0 ≤ (b.toNat : Int) ∧ (b.toNat : Int) < 256 := ⟨by omega, by have := b.toNat_lt; omega⟩
theorem implFmS_any (s : ByteArray) (w : World) (hs : s.size ≤ maxLen) :
    Calls Try.prog 84 #[.string s] w fun e w' => e = .returned (.bool (isFm s)) ∧ w = w' := by
  unfold maxLen at hs
  by_cases h8 : s.size ≤ 8
  · have h9 : ¬ (8 : Int) < (s.size : Int) := by omega
    go_enter Try.func84, Try.ntmps84
    go_wp2
    go_loop [9] (fun i => ∃ (j : Nat), j ≤ s.size ∧ i = .int .i64 j ∧ Hid (∀ k, (hk : k < s.size) → k < j → isSnd (s[k].toNat : Int) = true)) (fun i => s.size - (intOf i).toNat)
    case atStart => exact ⟨0, by omega, rfl, fun k _ hk => by omega⟩
    case round =>
      obtain ⟨j, hj, rfl, hall⟩ := hrel
      by_cases hlt : j < s.size
      · go_wp2_with fail
        refine (implIsSound_any _ _ (byte_in _).1 (byte_in _).2).mono ?_
        rintro e w2 ⟨rfl, rfl⟩
        go_wp2
        · have hn : isSnd (s[j].toNat : Int) = false := of_not_true (by assumption)
          go_ret
          exact ⟨ret_bool (by unfold isFm; rw [l2S_not j hlt hn, Bool.false_and]), rfl⟩
        · have hn : isSnd (s[j].toNat : Int) = true := of_not_false (by assumption)
          go_round
          case rel =>
            refine ⟨j + 1, by omega, by go_num, fun k hk hkj => ?_⟩
            by_cases hkj2 : k = j
            · subst hkj2; exact hn
            · exact hall.out k hk (by omega)
          case measure => simp [intOf]; omega
      · obtain rfl : j = s.size := by omega
        have HO : Hid (isFm s = true) := by
          unfold Hid isFm
          rw [l2S_all fun i hi => hall.out i hi hi]
          simp; omega
        go_wp2
        go_ret
        exact ⟨ret_bool HO.out.symm, rfl⟩
  · have h9 : (8 : Int) < (s.size : Int) := by omega
    have HO : Hid (isFm s = false) := by
      unfold Hid isFm
      have : decide ((s.size : Int) ≤ 8) = false := by simp; omega
      rw [this, Bool.and_false]
    go_enter Try.func84, Try.ntmps84
    go_wp2
    go_ret
    exact ⟨ret_bool HO.out.symm, rfl⟩
theorem implFm_any (s : ByteArray) (w : World) (hs : s.size ≤ maxLen) :
    Calls Try.prog 84 #[.string s] w fun e w' => e = .returned (.bool (isFm s)) ∧ Below w.heap.size w w' :=
  (implFmS_any s w hs).mono fun _ _ h => ⟨h.1, h.2 ▸ Below.refl _ _⟩
end Go.Proofs.Ytlkhknoaifbajaa

/- Candidates laid in rows of the call's own: the steps. -/
namespace Go.Proofs.Ytlkhknoaifbajaa
set_option maxRecDepth 100000
open Go.RowKit
set_option linter.unusedVariables false
set_option linter.unusedSimpArgs false

theorem flatLink : Flat rLink where
  free := fun h w' => by obtain rfl := rLink_rd h; exact rLink_mk
  one := fun h u hu => by
    obtain rfl := rLink_rd h
    simp at hu
    rcases hu with rfl | rfl <;> rfl
theorem oneCand {s : Bool} {w : World} {ys : List Value} {x : DCandidate} {F : Addr → Prop} (h : rCandidate.rd s w ys x F) : ∀ u ∈ ys, u.oneCell' = true := by
  obtain ⟨v, rfl, hr⟩ := rCandidate_rd h
  obtain ⟨A, cap, rfl⟩ := hr.form
  intro u hu
  simp at hu
  subst hu; rfl
theorem OwnRd.weakO {α : Type} {E : Rep α} {e : TypeId} {s : Bool} {base : Nat} {w : World} {v : Value} {l : List α} {G : Addr → Prop} (h : OwnRd E e s base w v l G) : OwnRd E e false base w v l G := by
  obtain ⟨cells, Fk, hown, he⟩ := h
  refine ⟨cells, Fk, hown, fun k x hk => ?_⟩
  obtain ⟨ys, h1, h2, h3, h4⟩ := he k x hk
  exact ⟨ys, h1, E.weak h2, h3, fun h => by cases h⟩
theorem OwnRd.formO {α : Type} {E : Rep α} {e : TypeId} {s : Bool} {base : Nat} {w : World} {v : Value} {l : List α} {G : Addr → Prop} (h : OwnRd E e s base w v l G) : ∃ A cap, v = .slice A l.length cap := by
  obtain ⟨c, _, ho, _⟩ := h
  rcases ho.2 with ⟨h1, h2⟩ | ⟨g, cap, _, h1, _⟩
  · exact ⟨none, 0, by rw [h1, h2]⟩
  · exact ⟨_, cap, h1⟩
theorem infoCdW : (Try.prog.info? 26).map (fun i => (i.zero, i.size, i.bytes)) = some (some (.agg #[.slice none 0 0]), 1, 24) := by kernel_rfl
def cdL (p : List (List DLink)) : List DCandidate := p.map fun m => ⟨m⟩
theorem cdL_len (p : List (List DLink)) : (cdL p).length = p.length := by simp [cdL]
theorem cdL_at {p : List (List DLink)} {k : Nat} {m : List DLink} (h : p[k]? = some m) : (cdL p)[k]? = some ⟨m⟩ := by simp [cdL, h]
theorem cdL_app (p q : List (List DLink)) : cdL (p ++ q) = cdL p ++ cdL q := by simp [cdL]
/-- A row of candidates of the call's own, all of it behind base. -/
def OwnC (base : Nat) (w : World) (v : Value) (p : List (List DLink)) : Prop := OwnRd rCandidate 26 true base w v (cdL p) (fun a => base ≤ a.block ∧ a.block < w.heap.size)
theorem OwnC.kept {base : Nat} {w w' : World} {v : Value} {p : List (List DLink)} (h : OwnC base w v p) (hb : Below w.heap.size w w') : OwnC base w' v p :=
  (OwnRd.kept h hb).mono fun a ha => ⟨ha.1, Nat.lt_of_lt_of_le ha.2 hb.size⟩
theorem OwnC.form {base : Nat} {w : World} {v : Value} {p : List (List DLink)} (h : OwnC base w v p) : ∃ A cap, v = .slice A p.length cap := by
  have := OwnRd.formO h
  rwa [cdL_len] at this
theorem OwnC.row {base : Nat} {w : World} {v : Value} {p : List (List DLink)} (h : OwnC base w v p) (hm : p.length ≤ 1000000) : RowRd rCandidate true w v (cdL p) (fun a => base ≤ a.block) :=
  (OwnRd.row h (by rw [cdL_len]; omega)).mono fun a ha => by rcases ha with ha | ha; exact ha; exact ha.1
theorem OwnC.empty (w : World) {base : Nat} (hb : base ≤ w.heap.size) : OwnC base (w.alloc (.cells #[] 26)) (.slice (some ⟨w.heap.size, 0, none⟩) 0 0) [] := OwnRd.empty w hb _
/-- 'append([]Link{x}, links...)'. -/
theorem step_cons {ops : Array Oper} {o : Oper} {a : Act} {K : Act → World → Prop} {Q : Exit → Act → World → Prop} {Z : Prop} (w0 W : World) (hgd : o.guard = none) (sl y : Operand)
    (ho : o.op = .call { callee := .builtin .append, args := #[sl, y], argTypes := #[24, 24] }) (x : DLink)
    (hW : Below (w0.heap.size + 1) (w0.alloc (.cells #[.int .u8 (x.In.toNat : Int), .int .u8 (x.Out.toNat : Int)] 65)) W)
    (A : Option Addr) (n cap : Nat) (m : List DLink) (F : Addr → Prop) (hrow : RowRd rLink false W (.slice A n cap) m F) (hF : ∀ p, F p → p.block < w0.heap.size) (hm : m.length ≤ 1000)
    (hs : a.eval sl = .slice (some ⟨w0.heap.size, 0, none⟩) 1 1) (hy : a.eval y = .slice A n cap)
    (h : ∀ v' w', RowRd rLink true w' v' (x :: m) (fun p => w0.heap.size ≤ p.block ∧ p.block < w'.heap.size) → (∃ A' c', v' = .slice A' (m.length + 1) c') → Below w0.heap.size w0 w' → K (a.put o.dst v') w') :
    if Region.wanted o (yielded ops a.tmps) = true then Oper.wp Try.prog o a W K Q else Z := by
  obtain ⟨i3, hi3, qz3, qz4, qz5⟩ := info_parts Try.infoTLink
  have hb0 : Below w0.heap.size w0 (w0.alloc (.cells #[.int .u8 (x.In.toNat : Int), .int .u8 (x.Out.toNat : Int)] 65)) := (Below.refl _ _).alloc (Nat.le_refl _) _
  have hb1 : Below w0.heap.size w0 W := hb0.trans (hW.mono (Nat.le_succ _))
  have hsz : w0.heap.size + 1 ≤ W.heap.size := Nat.le_trans (by simp) hW.size
  have ho0 : OwnRd rLink 65 false w0.heap.size W (.slice (some ⟨w0.heap.size, 0, none⟩) 1 1) [x] (fun _ => False) := (OwnRd.kept (OwnRd.single flatLink w0 (rLink_mk (s := true) (w := w0) (x := x) (F := fun _ => False))) (by simpa using hW)).weakO
  refine step_append_rows rLink W hgd sl y 24 65 i3 (.agg #[.int .u8 0, .int .u8 0]) 2 ho Try.underlying24 hi3 qz3 qz4 qz5 rfl (by decide) flatLink.one false w0.heap.size _ [x] _ ho0 A n cap m F hrow (fun p hp => ⟨by have := hF p hp; omega, by have := hF p hp; simp [Value.ownBlock]; omega⟩) (fun hs => by cases hs) (by simp) (by omega) (by omega) (by omega) hs hy ?_
  intro v' w' h1 _ h3 _ _
  have hr := (OwnRd.row (h1.flat flatLink) (by simp; omega)).tight
  refine h v' w' (hr.mono fun p hp => ⟨hp.1.resolve_right id, hp.2⟩) ?_ (hb1.trans h3)
  have := hr.form
  simpa [Nat.add_comm] using this
/-- 'append(out, Candidate{..})'. -/
theorem step_cand {ops : Array Oper} {o : Oper} {a : Act} {K : Act → World → Prop} {Q : Exit → Act → World → Prop} {Z : Prop} (w0 w1 W : World) (hgd : o.guard = none) (sl y : Operand)
    (ho : o.op = .call { callee := .builtin .append, args := #[sl, y], argTypes := #[35, 35] })
    (base : Nat) (u : Value) (p : List (List DLink)) (h0 : OwnC base w0 u p) (hb01 : Below w0.heap.size w0 w1) (hbase : base ≤ w0.heap.size) (A : Option Addr) (n cap : Nat) (l : List DLink) (hrow : RowRd rLink true w1 (.slice A n cap) l (fun q => w0.heap.size ≤ q.block ∧ q.block < w1.heap.size))
    (hW : Below (w1.heap.size + 1) (w1.alloc (.cells #[.slice A n cap] 26)) W) (hp : p.length ≤ 100000)
    (hs : a.eval sl = u) (hy : a.eval y = .slice (some ⟨w1.heap.size, 0, none⟩) 1 1)
    (h : ∀ v' w', OwnC base w' v' (p ++ [l]) → Below base w0 w' → K (a.put o.dst v') w') :
    if Region.wanted o (yielded ops a.tmps) = true then Oper.wp Try.prog o a W K Q else Z := by
  obtain ⟨i3, hi3, qz3, qz4, qz5⟩ := info_parts infoCdW
  have hb1 : Below w1.heap.size w1 W := ((Below.refl _ _).alloc (Nat.le_refl _) _).trans (hW.mono (Nat.le_succ _))
  have hsz : w1.heap.size + 1 ≤ W.heap.size := Nat.le_trans (by simp) hW.size
  have hs01 := hb01.size
  have hx := rCandidate_mk (x := ⟨l⟩) hrow
  have hr1 : RowRd rCandidate true W (.slice (some ⟨w1.heap.size, 0, none⟩) 1 1) [⟨l⟩] (fun q => (w0.heap.size ≤ q.block ∧ q.block < w1.heap.size) ∨ q.block = w1.heap.size) := (RowRd.one (e := 26) w1 hx (fun q hq => hq.2)).kept (by simpa using hW)
  have hown := OwnRd.kept h0 (hb01.trans (hb1.mono hs01))
  refine step_append_rows rCandidate W hgd sl y 35 26 i3 (.agg #[.slice none 0 0]) 24 ho Try.underlying35 hi3 qz3 qz4 qz5 rfl (by decide) oneCand true base u (cdL p) _ hown (some ⟨w1.heap.size, 0, none⟩) 1 1 [⟨l⟩] _ hr1 (fun q hq => ⟨?_, fun e => ?_⟩) (fun _ q hq hg => ?_) (by rw [cdL_len]; omega) (by simp) (by omega) (by omega) hs hy ?_
  · rcases hq with hq | hq <;> omega
  · have := (OwnRd.lt h0 _ e).2
    rcases hq with hq | hq <;> omega
  · have := hg.2
    rcases hq with hq | hq <;> omega
  · intro v' w' h1 _ h3 _ _
    refine h v' w' ?_ ((hb01.mono hbase).trans ((hb1.mono (by omega)).trans h3))
    have h3s := h3.size
    unfold OwnC
    rw [cdL_app]
    exact OwnRd.mono h1 fun q hq => by
      rcases hq with hq | hq | hq
      · exact ⟨hq.1, by omega⟩
      · exact ⟨by omega, by omega⟩
      · exact ⟨by omega, by omega⟩
/-- 'append(out, more...)'. -/
theorem step_cands {ops : Array Oper} {o : Oper} {a : Act} {K : Act → World → Prop} {Q : Exit → Act → World → Prop} {Z : Prop} (w0 W : World) (hgd : o.guard = none) (sl y : Operand)
    (ho : o.op = .call { callee := .builtin .append, args := #[sl, y], argTypes := #[35, 35] })
    (base : Nat) (u : Value) (p : List (List DLink)) (h0 : OwnC base w0 u p) (hb01 : Below w0.heap.size w0 W) (hbase : base ≤ w0.heap.size) (A : Option Addr) (n cap : Nat) (q : List (List DLink)) (hrow : RowRd rCandidate true W (.slice A n cap) (cdL q) (fun a => w0.heap.size ≤ a.block ∧ a.block < W.heap.size))
    (hp : p.length ≤ 100000) (hq : q.length ≤ 100000) (hs : a.eval sl = u) (hy : a.eval y = .slice A n cap)
    (h : ∀ v' w', OwnC base w' v' (p ++ q) → Below base w0 w' → K (a.put o.dst v') w') :
    if Region.wanted o (yielded ops a.tmps) = true then Oper.wp Try.prog o a W K Q else Z := by
  obtain ⟨i3, hi3, qz3, qz4, qz5⟩ := info_parts infoCdW
  have hs01 := hb01.size
  have hown := OwnRd.kept h0 hb01
  refine step_append_rows rCandidate W hgd sl y 35 26 i3 (.agg #[.slice none 0 0]) 24 ho Try.underlying35 hi3 qz3 qz4 qz5 rfl (by decide) oneCand true base u (cdL p) _ hown A n cap (cdL q) _ hrow (fun b hb => ⟨hb.2, fun e => ?_⟩) (fun _ b hb hg => ?_) (by rw [cdL_len]; omega) (by rw [cdL_len]; omega) (by omega) (by omega) hs hy ?_
  · have := (OwnRd.lt h0 _ e).2
    omega
  · have := hg.2
    omega
  · intro v' w' h1 _ h3 _ _
    refine h v' w' ?_ ((hb01.mono hbase).trans h3)
    have h3s := h3.size
    unfold OwnC
    rw [cdL_app]
    exact OwnRd.mono h1 fun b hb => by
      rcases hb with hb | hb
      · exact ⟨hb.1, by omega⟩
      · exact ⟨by omega, by omega⟩
theorem wpList_cands {ops : Array Oper} {rest : List Oper} {o : Oper} {a : Act} {Q : Exit → Act → World → Prop} (w0 W : World) (hgd : o.guard = none) (sl y : Operand)
    (ho : o.op = .call { callee := .builtin .append, args := #[sl, y], argTypes := #[35, 35] })
    (base : Nat) (u : Value) (p : List (List DLink)) (h0 : OwnC base w0 u p) (hb01 : Below w0.heap.size w0 W) (hbase : base ≤ w0.heap.size) (A : Option Addr) (n cap : Nat) (q : List (List DLink)) (hrow : RowRd rCandidate true W (.slice A n cap) (cdL q) (fun a => w0.heap.size ≤ a.block ∧ a.block < W.heap.size))
    (hp : p.length ≤ 100000) (hq : q.length ≤ 100000) (hs : a.eval sl = u) (hy : a.eval y = .slice A n cap)
    (h : ∀ v' w', OwnC base w' v' (p ++ q) → Below base w0 w' → (∀ k, k < w0.heap.size → u.ownBlock ≠ some k → w'.heap[k]? = w0.heap[k]?) → (v'.ownBlock = u.ownBlock ∨ ∀ k, v'.ownBlock = some k → w0.heap.size ≤ k) → wpList Try.prog ops Q rest (a.put o.dst v') w') :
    wpList Try.prog ops Q (o :: rest) a W := by
  refine wpList_plain hgd fun K hK => ?_
  obtain ⟨i3, hi3, qz3, qz4, qz5⟩ := info_parts infoCdW
  have hs01 := hb01.size
  have hown := OwnRd.kept h0 hb01
  obtain ⟨v', w', hr, h1, _, h3, h4, h5⟩ := run_append_rows rCandidate 35 o.type 26 i3 (.agg #[.slice none 0 0]) 24 Try.underlying35 hi3 qz3 qz4 qz5 rfl (by decide) oneCand true base u (cdL p) _ hown A n cap (cdL q) _ hrow (fun b hb => ⟨hb.2, fun e => by have := (OwnRd.lt h0 _ e).2; omega⟩) (fun _ b hb hg => by have := hg.2; omega) (by rw [cdL_len]; omega) (by rw [cdL_len]; omega) (by omega) (by omega)
  unfold Oper.wp execOp
  simp only [ho, resolve, invoke, builtin, Sem.run_bind, Sem.run_pure, Result.andThen_ok, List.map_toArray, List.map_cons, List.map_nil, hs, hy, hr]
  refine hK _ _ (h v' w' ?_ ((hb01.mono hbase).trans h3) (fun k hk hne => ((h4 k (by omega) hne).1).trans (hb01.block k hk)) ?_)
  · have h3s := h3.size
    unfold OwnC
    rw [cdL_app]
    exact OwnRd.mono h1 fun b hb => by
      rcases hb with hb | hb
      · exact ⟨hb.1, by omega⟩
      · exact ⟨by omega, by omega⟩
  · rcases h5 with h5 | h5
    · exact Or.inl h5
    · exact Or.inr fun k hk => Nat.le_trans hs01 (h5 k hk)
end Go.Proofs.Ytlkhknoaifbajaa

/- The model's l7Before: what it answers. -/
namespace Go.Proofs.Ytlkhknoaifbajaa
set_option maxRecDepth 100000
open Go.RowKit
set_option linter.unusedVariables false
set_option linter.unusedSimpArgs false

theorem drewB {B : Nat} {w w' : World} (h : Below B w w') : Below B w w'.drew := h.drew
theorem take_map_step {x : DLink} {p : List (List DLink)} {k : Nat} {m : List DLink} (h : p[k]? = some m) : (p.take (k + 1)).map (x :: ·) = (p.take k).map (x :: ·) ++ [x :: m] := by
  rw [List.take_add_one, h]; simp
set_option maxHeartbeats 8000000 in
theorem specBefore_any (x : DLink) (v : Value) (p : List (List DLink)) (F : Addr → Prop) (w : World) (hl : p.length ≤ 10000) (hln : ∀ m ∈ p, m.length ≤ 1000) (hv : RowRd rCandidate false w v (cdL p) F) :
    Calls Try.prog 103 #[.agg #[.int .u8 (x.In.toNat : Int), .int .u8 (x.Out.toNat : Int)], v] w (OwnPost rCandidate (cdL (p.map (x :: ·))) w) := by
  obtain ⟨A, cap, rfl⟩ := hv.form
  rw [cdL_len] at *
  have HV := Lib.hid hv.tight
  have HLN := Lib.hid hln
  have HX : Hid (∀ k, k < p.length → ∃ m, p[k]? = some m) := fun k hk => ⟨_, List.getElem?_eq_getElem hk⟩
  have HP : Hid (∀ (u : Value) (w' : World), OwnC (w.heap.size + 1) w' u ((p.take p.length).map (x :: ·)) → Below w.heap.size w w' → OwnPost rCandidate (cdL (p.map (x :: ·))) w (.returned u) w') := fun u w' h1 h2 => by
    rw [List.take_length] at h1
    exact ⟨u, rfl, (h1.row (by simp; omega)).mono fun a ha => Nat.le_trans (Nat.le_succ _) ha, h2⟩
  have hE : OwnC (w.heap.size + 1) ((w.alloc (.cells #[.int .u8 (x.In.toNat : Int), .int .u8 (x.Out.toNat : Int)] 65)).alloc (.cells #[] 26)) (.slice (some ⟨w.heap.size + 1, 0, none⟩) 0 0) [] := by
    have h := OwnC.empty (w.alloc (.cells #[.int .u8 (x.In.toNat : Int), .int .u8 (x.Out.toNat : Int)] 65)) (base := w.heap.size + 1) (by simp)
    have hs : (w.alloc (.cells #[.int .u8 (x.In.toNat : Int), .int .u8 (x.Out.toNat : Int)] 65)).heap.size = w.heap.size + 1 := by simp
    rw [hs] at h
    exact h
  have HE0 := Lib.hid hE
  clear hv hln hE
  go_enter Try.func103, Try.ntmps103
  go_wp2_with fail
  go_loopw [5, 6] (fun u i wr => ∃ (k : Nat), k ≤ p.length ∧ i = .int .i64 k ∧ OwnC (w.heap.size + 1) wr u ((p.take k).map (x :: ·)) ∧ Below w.heap.size w wr ∧ Hid (w.heap.size + 1 ≤ wr.heap.size) ∧ InC wr w.heap.size #[.int .u8 (x.In.toNat : Int), .int .u8 (x.Out.toNat : Int)] 65) (fun _ i _ => p.length - (intOf i).toNat)
  case atStart => exact ⟨0, by omega, rfl, HE0.out, ((Below.refl _ _).alloc (Nat.le_refl _) _).alloc (by simp) _, by unfold Hid; simp, box1 _ _ _⟩
  case round =>
    obtain ⟨k, hk, rfl, hown, hbe, hsz, hin⟩ := hrel
    have hlk : ((p.take k).map (x :: ·)).length = k := by rw [List.length_map, List.length_take]; omega
    obtain ⟨Au, cu, rfl⟩ := hown.form
    rw [hlk] at hown ⊢
    have HLK := Lib.hid hlk
    clear hlk
    have HO := Lib.hid hown
    have HBE := Lib.hid hbe
    have HIN := Lib.hid hin
    clear hown hbe hin
    by_cases hkl : k < p.length
    · obtain ⟨m, hm⟩ := HX.out k hkl
      have hml := HLN.out m (List.mem_of_getElem? hm)
      have HST := Lib.hid (take_map_step (x := x) hm)
      obtain ⟨g, off, xs, Fk, rfl, _, hra, hFk, hca⟩ := (HV.out.kept HBE.out).get (cdL_at hm)
      obtain ⟨vm, rfl, hrow⟩ := rCandidate_rd hra
      obtain ⟨Am, cm, rfl⟩ := hrow.form
      rw [rCandidate_size] at hca
      have c0 := hca 0 _ rfl
      simp only [Nat.add_zero, Nat.mul_one] at c0
      have x0 := HIN.out.cell 0 rfl
      have x1 := HIN.out.cell 1 rfl
      have c0a : ∀ o, (wr.alloc o).cell? ⟨g, off + k, none⟩ = some (.slice Am m.length cm) := fun o => (((Below.refl wr.heap.size wr).alloc (Nat.le_refl _) o).cell (block_lt_of_cell c0)).trans c0
      have HROW := Lib.hid hrow
      have HFK : Hid (∀ a, Fk a → a.block < w.heap.size) := fun a ha => (hFk a ha).2
      have HPL : Hid (((p.take k).map (x :: ·)).length ≤ 100000) := by unfold Hid; rw [List.length_map, List.length_take]; omega
      have HML := Lib.hid hml
      clear hrow hFk hca hra hml
      go_upto_region 5 with fail
      go_region_law (first | (refine step_cons wr ((wr.alloc (.cells #[.int .u8 (x.In.toNat : Int), .int .u8 (x.Out.toNat : Int)] 65)).drew) rfl (.tmp 16) (.tmp 21) rfl x (drewB (Below.refl _ _)) Am m.length cm m Fk (HROW.out.kept (drewB ((Below.refl _ _).alloc (Nat.le_refl _) _))) (fun a ha => Nat.lt_of_lt_of_le (HFK.out a ha) HBE.out.size) HML.out (by simp [Act.eval]) (by simp [Act.eval]) ?_; intro v1 w1 h1 h2 h3; obtain ⟨A1, c1, rfl⟩ := h2; have HR1 := Lib.hid h1; have HB1 := Lib.hid h3; clear h1 h3) | (refine step_cand wr w1 (w1.alloc (.cells #[.slice A1 (m.length + 1) c1] 26)) rfl (.tmp 14) (.tmp 24) rfl (w.heap.size + 1) _ ((p.take k).map (x :: ·)) HO.out HB1.out hsz.out A1 (m.length + 1) c1 (x :: m) HR1.out (Below.refl _ _) HPL.out (by simp [Act.eval]) (by simp [Act.eval]) ?_; intro v2 w2 h1 h2; have HO2 := Lib.hid h1; have HB2 := Lib.hid h2; obtain ⟨A2, c2, hv2⟩ := h1.form; rw [List.length_append, HLK.out] at hv2; clear h1 h2))
      all_goals
        have HB3 : Hid (Below w.heap.size w w2) := HBE.out.trans (HB2.out.mono (Nat.le_succ _))
        have HS3 : Hid (w.heap.size + 1 ≤ w2.heap.size) := Nat.le_trans hsz.out HB2.out.size
        have HI3 := Lib.hid (HIN.out.keptB HB2.out (Nat.lt_succ_self _))
        have hv3 : v2 = .slice A2 (k + 1) c2 := hv2
        clear hv2
        subst hv3
        clear c0 c0a x0 x1
        go_wp2
        go_roundw
        case rel => exact ⟨k + 1, by omega, by go_num, by rw [HST.out]; exact HO2.out, HB3.out, HS3, HI3.out⟩
        case measure => simp [intOf]; omega
    · obtain rfl : k = p.length := by omega
      go_wp2
      go_ret
      exact HP.out _ _ HO.out HBE.out
end Go.Proofs.Ytlkhknoaifbajaa
