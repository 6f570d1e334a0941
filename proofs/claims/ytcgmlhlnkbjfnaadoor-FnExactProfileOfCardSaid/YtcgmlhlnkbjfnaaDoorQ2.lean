/- Merged: Ret Row M10 Snd Ss Shv L2s Sl Fm. -/
import Derived.Test.YtcgmlhlnkbjfnaaDoorProg
import Derived.WalkKit
import Derived.Test.YtcgmlhlnkbjfnaaDoorRows
import Derived.Test.YtcgmlhlnkbjfnaaDoorQ1
import Derived.Laws.IdiomStrings
import Derived.Laws.BytesArg
import Derived.Lib.Hide
import Derived.Outline
import Derived.Maps.AppendAt
import Derived.Lib.Bytealg
import Derived.Lib.Slices
/- Equal answers are equal endings. -/
namespace Go.Proofs.YtcgmlhlnkbjfnaaDoor
set_option maxRecDepth 100000
open Go.RowKit

theorem ret_str {a b : ByteArray} (h : a = b) : Ending.returned (.string a) = .returned (.string b) := by rw [h]
theorem ret_bool {a b : Bool} (h : a = b) : Ending.returned (.bool a) = .returned (.bool b) := by rw [h]
theorem ret_i64 {a b : Int} (h : a = b) : Ending.returned (.int .i64 a) = .returned (.int .i64 b) := by rw [h]
end Go.Proofs.YtcgmlhlnkbjfnaaDoor

/- Rows of bytes that a call makes: what their conversion to a string gives. -/
namespace Go.Proofs.YtcgmlhlnkbjfnaaDoor
set_option maxRecDepth 100000
open Go.RowKit M

/-- Bytes as cells. -/
def cellsB (l : List UInt8) : List Value := l.map fun b => .int .u8 (b.toNat : Int)
theorem cellsB_len (l : List UInt8) : (cellsB l).length = l.length := by simp [cellsB]
theorem Tryd.info5 : (Tryd.prog.info? 5).map (fun i => (i.zero, i.size, i.bytes)) = some (some (.int .u8 0), 1, 1) := by kernel_rfl

/-- 'string(v)' of a row of the call's own. -/
theorem conv_own {w : World} {base n : Nat} {v : Value} {l : List UInt8} (h : w.ownsRow base 5 1 v n (cellsB l)) :
    (convert 73 9 v).run Tryd.prog w = .ok (.string ⟨l.toArray⟩) w := by
  have hl : l.length = n := by have := h.1; simpa [cellsB] using this
  have hh := h
  rcases h.2 with ⟨rfl, rfl⟩ | ⟨g, cap, cur, rfl, _⟩
  · have : l = [] := List.eq_nil_of_length_eq_zero hl
    subst this
    exact run_convert_bytes_nil w 73 5 Tryd.underlying73 Tryd.underlying5 0 0 9 Tryd.underlying9
  · subst hl
    refine run_convert_bytes_back w 73 9 5 ⟨g, 0, none⟩ cap l Tryd.underlying73 Tryd.underlying5 Tryd.underlying9 fun j hj => ?_
    have hp : (⟨g, 0, none⟩ : Addr).add j = ⟨g, j, none⟩ := by unfold Addr.add; split <;> simp_all
    rw [hp, hh.cellAt j (by omega)]
    simp [cellsB, List.getElem?_map, List.getElem?_eq_getElem hj]
theorem set_rep (j : Nat) (z : Value) (x : Int) (h0 : 0 ≤ x) (h1 : x < 256) (out : List UInt8) :
    (List.replicate (j + 1) z ++ cellsB out).set j (.int .u8 x) = List.replicate j z ++ cellsB (byt x :: out) := by
  rw [List.replicate_succ', List.append_assoc, List.set_append_right _ _ (by simp)]
  simp [cellsB, byt_toNat x h0 h1]
end Go.Proofs.YtcgmlhlnkbjfnaaDoor

/- Names of constraints: plain mathematics: the ten names, rows of names, their text. -/
namespace Go.Proofs.YtcgmlhlnkbjfnaaDoor
set_option maxRecDepth 100000
open Go.RowKit M

def hasB (l : List ByteArray) (x : ByteArray) : Bool := l.any fun y => decide (y = x)
theorem hasB_nil (x : ByteArray) : hasB [] x = false := rfl
theorem hasB_yes {l : List ByteArray} {k : Nat} {x : ByteArray} (h : l[k]? = some x) : hasB l x = true := by
  unfold hasB; rw [List.any_eq_true]; exact ⟨x, List.mem_of_getElem? h, by simp⟩
theorem hasB_no {l : List ByteArray} {x : ByteArray} (h : ∀ (j : Nat) (y : ByteArray), l[j]? = some y → ¬ y = x) : hasB l x = false := by
  unfold hasB; rw [List.any_eq_false]
  intro y hy
  obtain ⟨j, hj, rfl⟩ := List.getElem_of_mem hy
  have := h j _ (List.getElem?_eq_getElem hj)
  simpa using this
def namesB : List ByteArray := [⟨#[111, 110, 115, 101, 116]⟩, ⟨#[110, 111, 99, 111, 100, 97]⟩, ⟨#[99, 108, 117, 115, 116, 101, 114]⟩, ⟨#[118, 111, 105, 99, 101]⟩, ⟨#[102, 105, 110, 97, 108]⟩, ⟨#[110, 97, 115, 97, 108]⟩, ⟨#[109, 97, 120]⟩, ⟨#[100, 101, 112]⟩, ⟨#[105, 100, 101, 110, 116]⟩, ⟨#[99, 111, 110, 116, 105, 103]⟩]
theorem namesB_len : namesB.length = 10 := rfl
def isMk (x : ByteArray) : Bool := hasB (namesB.take 6) x
/-- The j-th name of the row is one of the ten and none of those ahead of it. -/
def nmAt (l : List ByteArray) (j : Nat) : Bool := match l[j]? with
  | some x => hasB namesB x && !hasB (l.take j) x
  | none => true
def areC (l : List ByteArray) : Bool := (List.range l.length).all (nmAt l) && (decide (1 ≤ (l.length : Int)) && decide ((l.length : Int) ≤ 5))
theorem areC_bad {l : List ByteArray} {k : Nat} {x : ByteArray} (h : l[k]? = some x) (hb : hasB namesB x = false ∨ hasB (l.take k) x = true) : areC l = false := by
  have hk := (List.getElem?_eq_some_iff.1 h).1
  unfold areC
  have : (List.range l.length).all (nmAt l) = false := by
    rw [List.all_eq_false]
    refine ⟨k, List.mem_range.2 hk, ?_⟩
    unfold nmAt
    rw [h]
    rcases hb with hb | hb <;> simp [hb]
  rw [this]; rfl
theorem areC_good {l : List ByteArray} (h : ∀ (k : Nat) (x : ByteArray), l[k]? = some x → hasB namesB x = true ∧ hasB (l.take k) x = false) : areC l = (decide (1 ≤ (l.length : Int)) && decide ((l.length : Int) ≤ 5)) := by
  unfold areC
  have : (List.range l.length).all (nmAt l) = true := by
    rw [List.all_eq_true]
    intro k hk
    have hk := List.mem_range.1 hk
    have hx := List.getElem?_eq_getElem hk
    obtain ⟨h1, h2⟩ := h k _ hx
    unfold nmAt
    rw [hx]
    simp [h1, h2]
  rw [this, Bool.true_and]
theorem areC_len {l : List ByteArray} (h : areC l = true) : 1 ≤ l.length ∧ l.length ≤ 5 := by
  unfold areC at h
  simp only [Bool.and_eq_true, decide_eq_true_eq] at h
  omega
theorem areC_mem {l : List ByteArray} (h : areC l = true) {k : Nat} {x : ByteArray} (hx : l[k]? = some x) : hasB namesB x = true ∧ hasB (l.take k) x = false := by
  cases h1 : hasB namesB x with
  | false => rw [areC_bad hx (.inl h1)] at h; cases h
  | true =>
    cases h2 : hasB (l.take k) x with
    | true => rw [areC_bad hx (.inr h2)] at h; cases h
    | false => exact ⟨rfl, rfl⟩
/-- A name is short. -/
theorem name_size {x : ByteArray} (h : hasB namesB x = true) : x.size ≤ 7 := by
  unfold hasB at h
  rw [List.any_eq_true] at h
  obtain ⟨y, hy, he⟩ := h
  obtain rfl : y = x := by simpa using he
  simp only [namesB, List.mem_cons, List.mem_nil_iff, or_false] at hy
  rcases hy with rfl | rfl | rfl | rfl | rfl | rfl | rfl | rfl | rfl | rfl <;> decide
/-- The first k names, a comma between. -/
def joinN (l : List ByteArray) : Nat → ByteArray
  | 0 => ⟨#[]⟩
  | k + 1 => (if 0 < k then joinN l k ++ ⟨#[44]⟩ else joinN l k) ++ l.getD k ByteArray.empty
theorem joinN_size {l : List ByteArray} (h : areC l = true) : ∀ k, k ≤ l.length → (joinN l k).size ≤ 8 * k
  | 0, _ => Nat.le_refl 0
  | k + 1, hk => by
    have ih := joinN_size h k (by omega)
    have hx := List.getElem?_eq_getElem (l := l) (i := k) (by omega)
    have hs := name_size (areC_mem h hx).1
    have hg : l.getD k ByteArray.empty = l[k] := by rw [List.getD_eq_getElem?_getD, hx]; rfl
    unfold joinN
    rw [ByteArray.size_append, hg]
    split
    · rw [ByteArray.size_append, show (⟨#[44]⟩ : ByteArray).size = 1 from rfl]; omega
    · omega
def fmtN (l : List ByteArray) : ByteArray := if areC l then joinN l l.length else ⟨#[]⟩
end Go.Proofs.YtcgmlhlnkbjfnaaDoor

/- The sounds as numbers: which bytes are sounds, obstruents, and have a feature; plain mathematics. -/
namespace Go.Proofs.YtcgmlhlnkbjfnaaDoor
set_option maxRecDepth 100000
open Go.RowKit

def isSnd (x : Int) : Bool := x == 112 || x == 116 || x == 98 || x == 100 || x == 110 || x == 97 || x == 105
def isObs (x : Int) : Bool := x == 112 || x == 116 || x == 98 || x == 100
def swapV (x : Int) : Int := if x = 112 then 98 else if x = 98 then 112 else if x = 116 then 100 else if x = 100 then 116 else x
/-- The k-th sound. -/
def sndAt (k : Nat) : Int := [112, 116, 98, 100, 110, 97, 105].getD k 0
def hasF (x f : Int) : Bool :=
  if f = 0 then x == 97 || x == 105 else if f = 1 then x == 98 || x == 100 || x == 110 || x == 97 || x == 105 else if f = 2 then x == 110
  else if f = 3 then x == 112 || x == 98 else if f = 4 then x == 105 else false
theorem snd_index (x : Int) (h0 : 0 ≤ x) (h1 : x < 256) : decide (0 ≤ Lib.indexByte [112, 116, 98, 100, 110, 97, 105] x.toNat.toUInt8) = isSnd x := by
  obtain ⟨n, rfl⟩ := Int.eq_ofNat_of_zero_le h0
  have key : ∀ m : Fin 256, decide (0 ≤ Lib.indexByte [112, 116, 98, 100, 110, 97, 105] m.val.toUInt8) = isSnd (m.val : Int) := by decide +kernel
  exact key ⟨n, by omega⟩
theorem obs_index (x : Int) (h0 : 0 ≤ x) (h1 : x < 256) : decide (0 ≤ Lib.indexByte [112, 116, 98, 100] x.toNat.toUInt8) = isObs x := by
  obtain ⟨n, rfl⟩ := Int.eq_ofNat_of_zero_le h0
  have key : ∀ m : Fin 256, decide (0 ≤ Lib.indexByte [112, 116, 98, 100] m.val.toUInt8) = isObs (m.val : Int) := by decide +kernel
  exact key ⟨n, by omega⟩
/-- The bytes that have a feature, as the program's table has them. -/
def featL : Nat → List UInt8
  | 0 => [97, 105] | 1 => [98, 100, 110, 97, 105] | 2 => [110] | 3 => [112, 98] | 4 => [105] | _ => []
theorem feat_index (x : Int) (k : Nat) (h0 : 0 ≤ x) (h1 : x < 256) (hk : k < 5) : decide (0 ≤ Lib.indexByte (featL k) x.toNat.toUInt8) = hasF x k := by
  obtain ⟨n, rfl⟩ := Int.eq_ofNat_of_zero_le h0
  have key : ∀ k : Fin 5, ∀ m : Fin 256, decide (0 ≤ Lib.indexByte (featL k.val) m.val.toUInt8) = hasF (m.val : Int) (k.val : Int) := by decide +kernel
  exact key ⟨k, hk⟩ ⟨n, by omega⟩
theorem hasF_no (x f : Int) (h : f < 0 ∨ 4 < f) : hasF x f = false := by
  unfold hasF
  rw [if_neg (by omega), if_neg (by omega), if_neg (by omega), if_neg (by omega), if_neg (by omega)]
theorem isSnd_at (x : Int) (k : Nat) (hk : k < 7) (h : sndAt k = x) : isSnd x = true := by
  subst h
  have key : ∀ k : Fin 7, isSnd (sndAt k.val) = true := by decide
  exact key ⟨k, hk⟩
theorem isSnd_none (x : Int) (h : ∀ k, k < 7 → sndAt k ≠ x) : isSnd x = false := by
  have h0 := h 0 (by omega); have h1 := h 1 (by omega); have h2 := h 2 (by omega); have h3 := h 3 (by omega)
  have h4 := h 4 (by omega); have h5 := h 5 (by omega); have h6 := h 6 (by omega)
  simp [sndAt] at h0 h1 h2 h3 h4 h5 h6
  unfold isSnd
  simp
  omega
end Go.Proofs.YtcgmlhlnkbjfnaaDoor

/- The model's IsSound: what it answers. -/
namespace Go.Proofs.YtcgmlhlnkbjfnaaDoor
set_option maxRecDepth 100000
open Go.RowKit

/-- The k-th byte of Sounds, as it is read. -/
theorem snd_read (k : Nat) (hk : k < 7) : (((⟨#[112, 116, 98, 100, 110, 97, 105]⟩ : ByteArray)[k]'hk).toNat : Int) = sndAt k := by
  have key : ∀ k : Fin 7, (((⟨#[112, 116, 98, 100, 110, 97, 105]⟩ : ByteArray)[k.val]'k.isLt).toNat : Int) = sndAt k.val := by decide
  exact key ⟨k, hk⟩
theorem specIsSound_any (x : Int) (w : World) :
    Calls Tryd.prog 33 #[.int .u8 x] w fun e w' => e = .returned (.bool (isSnd x)) ∧ w = w' := by
  go_enter Tryd.func33, Tryd.ntmps33
  go_wp2
  go_loop [3] (fun i => ∃ j : Nat, j ≤ 7 ∧ i = .int .i64 j ∧ Hid (∀ k, k < j → sndAt k ≠ x)) (fun i => 7 - (intOf i).toNat)
  case atStart => exact ⟨0, by omega, rfl, fun k hk => by omega⟩
  case round =>
    obtain ⟨j, hj, rfl, hx⟩ := hrel
    by_cases hlt : j < 7
    · go_wp2
      · rename_i hq _
        have he : sndAt j = x := by rw [← snd_read j hlt]; simpa using hq
        go_ret
        exact ⟨ret_bool (isSnd_at x j hlt he).symm, rfl⟩
      · rename_i hq
        have he : sndAt j ≠ x := by rw [← snd_read j hlt]; simpa using hq
        go_round
        case rel => exact ⟨j + 1, by omega, by go_num, fun k hk => if hk2 : k = j then hk2 ▸ he else hx.out k (by omega)⟩
        case measure => simp [intOf]; omega
    · obtain rfl : j = 7 := by omega
      go_wp2
      go_ret
      exact ⟨ret_bool (isSnd_none x hx.out).symm, rfl⟩
end Go.Proofs.YtcgmlhlnkbjfnaaDoor

/- What a list of sounds shares: plain mathematics. -/
namespace Go.Proofs.YtcgmlhlnkbjfnaaDoor
set_option maxRecDepth 100000

def sg (x : Int) (k : Nat) : Int := if hasF x k then 1 else -1
theorem sg_yes {x : Int} {k : Nat} (h : hasF x k = true) : sg x k = 1 := by unfold sg; rw [if_pos h]
theorem sg_no {x : Int} {k : Nat} (h : hasF x k = false) : sg x k = -1 := by unfold sg; rw [if_neg (by simp [h])]
def com (A B : Nat → Int) (k : Nat) : Int := if A k = B k then A k else 0
theorem com_eq {A B : Nat → Int} {k : Nat} (h : A k = B k) : com A B k = A k := by unfold com; rw [if_pos h]
theorem com_ne {A B : Nat → Int} {k : Nat} (h : A k ≠ B k) : com A B k = 0 := by unfold com; rw [if_neg h]
/-- A byte's number. -/
def nb (b : UInt8) : Int := (b.toNat : Int)
theorem nb_ge (b : UInt8) : 0 ≤ nb b := by unfold nb; omega
theorem nb_lt (b : UInt8) : nb b < 256 := by unfold nb; have := UInt8.toNat_lt b; omega
/-- What all sounds of a list share: 1 if all have the feature, -1 if none has, else 0. -/
def shv (l : List UInt8) (k : Nat) : Int := if l.all (fun b => hasF (nb b) k) then 1 else if l.all (fun b => !hasF (nb b) k) then -1 else 0
theorem shv_one (b : UInt8) : shv [b] = sg (nb b) := by
  funext k
  unfold shv sg
  cases h : hasF (nb b) k <;> simp [h]
theorem shv_step (p : List UInt8) (b : UInt8) (hp : p ≠ []) : com (shv p) (sg (nb b)) = shv (p ++ [b]) := by
  funext k
  unfold com shv sg
  simp only [List.all_append, List.all_cons, List.all_nil, Bool.and_true]
  cases h1 : p.all (fun b => hasF (nb b) k) <;> cases h2 : p.all (fun b => !hasF (nb b) k) <;> cases h3 : hasF (nb b) k <;> simp
  -- both: the list is empty
  all_goals
    exfalso
    cases p with
    | nil => exact hp rfl
    | cons c p =>
      simp only [List.all_cons, Bool.and_eq_true] at h1 h2
      have := h1.1
      rw [this] at h2
      exact absurd h2.1 (by simp)
theorem shv_self (b : UInt8) : com (shv [b]) (sg (nb b)) = shv [b] := by
  funext k
  rw [shv_one]
  exact com_eq rfl
/-- A text that has shared features. -/
def okCls (l : List UInt8) : Bool := !l.isEmpty && decide (l.length ≤ 20) && l.all (fun b => isSnd (nb b))
end Go.Proofs.YtcgmlhlnkbjfnaaDoor

/- Whether a text has sounds only: what the model's helper answers. -/
namespace Go.Proofs.YtcgmlhlnkbjfnaaDoor
set_option maxRecDepth 100000
open Go.RowKit

theorem all_take (s : ByteArray) (i : Nat) (h : i < s.size) : s.data.toList.take (i + 1) = s.data.toList.take i ++ [s[i]] := by
  rw [List.take_add_one]
  have hl : i < s.data.toList.length := by simpa using h
  rw [List.getElem?_eq_getElem hl]
  rfl
theorem of_not_true {b : Bool} (h : (!b) = true) : b = false := by simpa using h
theorem of_not_false {b : Bool} (h : (!b) = false) : b = true := by simpa using h
theorem ne_nil_of {s : ByteArray} (h : 0 < s.size) : s.data.toList ≠ [] := by
  intro e
  have h3 : s.data.toList.length = s.size := by simp
  rw [e, List.length_nil] at h3
  omega
def l2S (l : List UInt8) : Bool := l.all (fun b => isSnd (nb b)) && decide (l.length ≤ 20)
theorem l2S_not {s : ByteArray} (i : Nat) (h : i < s.size) (hn : isSnd (s[i].toNat : Int) = false) : l2S s.data.toList = false := by
  unfold l2S
  have hm : s[i] ∈ s.data.toList := by
    have hl : i < s.data.toList.length := by simpa using h
    exact List.getElem_mem (n := i) hl
  have : s.data.toList.all (fun b => isSnd (nb b)) = false := by
    rw [List.all_eq_false]
    exact ⟨s[i], hm, by show ¬ isSnd (s[i].toNat : Int) = true; simp [hn]⟩
  rw [this]
  simp
theorem l2S_all {s : ByteArray} (h : ∀ i, (hi : i < s.size) → isSnd (s[i].toNat : Int) = true) : l2S s.data.toList = decide ((s.size : Int) ≤ 20) := by
  unfold l2S
  have ha : s.data.toList.all (fun b => isSnd (nb b)) = true := by
    rw [List.all_eq_true]
    intro b hb
    obtain ⟨i, hi, rfl⟩ := List.mem_iff_getElem.1 hb
    exact h i (by simpa using hi)
  have hl : s.data.toList.length = s.size := by simp
  rw [ha, hl, Bool.true_and]
  simp
  omega
theorem specL2_any (s : ByteArray) (w : World) (hs : s.size ≤ maxLen) :
    Calls Tryd.prog 56 #[.string s] w fun e w' => e = .returned (.bool (l2S s.data.toList)) ∧ w = w' := by
  unfold maxLen at hs
  go_enter Tryd.func56, Tryd.ntmps56
  go_wp2
  go_loop [3] (fun i => ∃ (j : Nat), j ≤ s.size ∧ i = .int .i64 j ∧ Hid (∀ k, (hk : k < s.size) → k < j → isSnd (s[k].toNat : Int) = true)) (fun i => s.size - (intOf i).toNat)
  case atStart => exact ⟨0, by omega, rfl, fun k _ hk => by omega⟩
  case round =>
    obtain ⟨j, hj, rfl, hall⟩ := hrel
    by_cases hlt : j < s.size
    · go_wp2_with fail
      refine (specIsSound_any _ _).mono ?_
      rintro e w2 ⟨rfl, rfl⟩
      go_wp2
      · have hn : isSnd (s[j].toNat : Int) = false := of_not_true (by assumption)
        go_ret
        exact ⟨ret_bool (l2S_not j hlt hn).symm, rfl⟩
      · have hn : isSnd (s[j].toNat : Int) = true := of_not_false (by assumption)
        go_round
        case rel =>
          refine ⟨j + 1, by omega, by go_num, fun k hk hkj => ?_⟩
          by_cases hkj2 : k = j
          · subst hkj2; exact hn
          · exact hall.out k hk (by omega)
        case measure => simp [intOf]; omega
    · obtain rfl : j = s.size := by omega
      have HO := Lib.hid (l2S_all fun i hi => hall.out i hi hi)
      go_wp2
      go_ret
      exact ⟨ret_bool HO.out.symm, rfl⟩
end Go.Proofs.YtcgmlhlnkbjfnaaDoor

/- A slice of one sound; sums of short texts. -/
namespace Go.Proofs.YtcgmlhlnkbjfnaaDoor
set_option maxRecDepth 100000
open Go.RowKit M

/-- A slice of one sound. -/
theorem snd_slice (j : Nat) (h : j < 7) (w : World) : (Instr.slice 9 (.string ⟨#[112, 116, 98, 100, 110, 97, 105]⟩) (some (.int .i64 j)) (some (.int .i64 ((j : Int) + 1))) none).run Tryd.prog w = .ok (.string ⟨#[byt (sndAt j)]⟩) w := by
  rcases (show j = 0 ∨ j = 1 ∨ j = 2 ∨ j = 3 ∨ j = 4 ∨ j = 5 ∨ j = 6 by omega) with rfl | rfl | rfl | rfl | rfl | rfl | rfl <;> kernel_rfl
theorem snd_extract (j : Nat) (h : j < 7) : (⟨#[112, 116, 98, 100, 110, 97, 105]⟩ : ByteArray).extract j (j + 1) = ⟨#[byt (sndAt j)]⟩ := by
  rcases (show j = 0 ∨ j = 1 ∨ j = 2 ∨ j = 3 ∨ j = 4 ∨ j = 5 ∨ j = 6 by omega) with rfl | rfl | rfl | rfl | rfl | rfl | rfl <;> rfl
theorem cat_last (l : List UInt8) (a : UInt8) : (⟨l.toArray⟩ : ByteArray) ++ ⟨#[a]⟩ = ⟨(l ++ [a]).toArray⟩ := by
  apply ByteArray.ext
  simp
theorem str_add (t u : ByteArray) (h : t.size + u.size ≤ 100) (w : World) : (Op.stringOp .add t u).run Tryd.prog w = .ok (.string (t ++ u)) w := by
  rw [run_string_add_sum _ _ _ (by omega)]
end Go.Proofs.YtcgmlhlnkbjfnaaDoor

/- Forms: plain mathematics. -/
namespace Go.Proofs.YtcgmlhlnkbjfnaaDoor
set_option maxRecDepth 100000
open Go.RowKit M

/-- The i-th byte's number. -/
def bAt (s : ByteArray) (i : Nat) : Int := ((s.data.toList.getD i 0).toNat : Int)
theorem bAt_in (s : ByteArray) (i : Nat) (h : i < s.size) : (s[i].toNat : Int) = bAt s i := by
  unfold bAt
  have hl : i < s.data.toList.length := by simpa using h
  rw [List.getD_eq_getElem?_getD, List.getElem?_eq_getElem hl]
  rfl
def isFm (s : ByteArray) : Bool := l2S s.data.toList && decide ((s.size : Int) ≤ 8)
theorem isFm_size {s : ByteArray} (h : isFm s = true) : s.size ≤ 8 := by
  unfold isFm at h; simp at h; omega
/-- Whether there is a vowel at i. -/
def vowAt (s : ByteArray) (i : Int) : Bool := decide (0 ≤ i) && (decide (i < (s.size : Int)) && hasF (bAt s i.toNat) 0)
theorem vowAt_in (s : ByteArray) (i : Nat) (h : i < s.size) : vowAt s i = hasF (bAt s i) 0 := by
  unfold vowAt
  have h1 : decide ((0 : Int) ≤ (i : Int)) = true := by simp
  have h2 : decide ((i : Int) < (s.size : Int)) = true := by simp; omega
  rw [h1, h2, Bool.true_and, Bool.true_and, Int.toNat_natCast]
/-- The vowels among the first j bytes. -/
def cntV (s : ByteArray) (j : Nat) : Nat := ((List.range j).filter fun i => hasF (bAt s i) 0).length
theorem cntV_le (s : ByteArray) (j : Nat) : cntV s j ≤ j := Nat.le_trans (List.length_filter_le _ _) (by simp)
theorem cntV_yes (s : ByteArray) (j : Nat) (h : hasF (bAt s j) 0 = true) : cntV s (j + 1) = cntV s j + 1 := by
  unfold cntV; rw [List.range_succ, List.filter_append]; simp [h]
theorem cntV_no (s : ByteArray) (j : Nat) (h : hasF (bAt s j) 0 = false) : cntV s (j + 1) = cntV s j := by
  unfold cntV; rw [List.range_succ, List.filter_append]; simp [h]
/-- V for each vowel and C for each other byte, of the first j. -/
def skelL (s : ByteArray) (j : Nat) : List UInt8 := (List.range j).map fun i => if hasF (bAt s i) 0 then 86 else 67
theorem skelL_len (s : ByteArray) (j : Nat) : (skelL s j).length = j := by simp [skelL]
theorem skelL_yes (s : ByteArray) (j : Nat) (h : hasF (bAt s j) 0 = true) : skelL s (j + 1) = skelL s j ++ [86] := by
  unfold skelL; rw [List.range_succ, List.map_append]; simp [h]
theorem skelL_no (s : ByteArray) (j : Nat) (h : hasF (bAt s j) 0 = false) : skelL s (j + 1) = skelL s j ++ [67] := by
  unfold skelL; rw [List.range_succ, List.map_append]; simp [h]
/-- The first j bytes, backwards. -/
def revL (s : ByteArray) (j : Nat) : List UInt8 := (s.data.toList.take j).reverse
theorem revL_step (s : ByteArray) (j : Nat) (h : j < s.size) : revL s (j + 1) = s[j] :: revL s j := by
  unfold revL; rw [all_take s j h, List.reverse_append]; rfl
theorem revL_len (s : ByteArray) (j : Nat) (h : j ≤ s.size) : (revL s j).length = j := by
  unfold revL; rw [List.length_reverse, List.length_take]; simp; omega
theorem revL_all (s : ByteArray) : revL s s.size = s.data.toList.reverse := by
  unfold revL; rw [List.take_of_length_le (by simp)]
theorem extract_one (s : ByteArray) (i : Nat) (h : i < s.size) : s.extract i (i + 1) = ⟨#[s[i]]⟩ := by
  apply ByteArray.ext
  rw [ByteArray.data_extract]
  apply Array.ext
  · simp; have : i < s.data.size := h; omega
  · intro k hk _
    simp at hk
    have : k = 0 := by omega
    subst this
    simp
    rfl
theorem cat_first (a : UInt8) (l : List UInt8) : (⟨#[a]⟩ : ByteArray) ++ ⟨l.toArray⟩ = ⟨(a :: l).toArray⟩ := by
  apply ByteArray.ext
  simp
/-- The forms of n sounds. -/
def sndB (j : Nat) : ByteArray := ⟨#[byt (sndAt j)]⟩
def ofTo (o : List ByteArray) (k j : Nat) : List ByteArray := (o.take k).flatMap (fun x => (List.range 7).map fun i => x ++ sndB i) ++ (List.range j).map fun i => (o.getD k ByteArray.empty) ++ sndB i
theorem ofTo_step (o : List ByteArray) (k j : Nat) : ofTo o k (j + 1) = ofTo o k j ++ [(o.getD k ByteArray.empty) ++ sndB j] := by
  unfold ofTo; rw [show List.range (j + 1) = List.range j ++ [j] from List.range_succ, List.map_append, List.append_assoc]; rfl
theorem ofTo_next (o : List ByteArray) (k : Nat) (h : k < o.length) : ofTo o k 7 = ofTo o (k + 1) 0 := by
  unfold ofTo
  rw [List.take_add_one, List.getElem?_eq_getElem h, List.flatMap_append, List.getD_eq_getElem?_getD, List.getElem?_eq_getElem h]
  simp
def ofL : Nat → List ByteArray
  | 0 => [⟨#[]⟩]
  | n + 1 => (ofL n).flatMap fun x => (List.range 7).map fun i => x ++ sndB i
theorem ofTo_all (o : List ByteArray) : ofTo o o.length 0 = o.flatMap fun x => (List.range 7).map fun i => x ++ sndB i := by
  unfold ofTo; rw [List.take_length]; simp
def formsL (n : Int) : List ByteArray := if 0 ≤ n ∧ n ≤ 3 then ofL n.toNat else []
end Go.Proofs.YtcgmlhlnkbjfnaaDoor
