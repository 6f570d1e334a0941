/- Merged: Wn12 Om12 TtStringS AppS Ms10 Ob12 Mt10 Sk12 Cs12. -/
import Derived.Test.YtkaihnlknncfdaaGreatDoorQ2
import Derived.Test.YtkaihnlknncfdaaGreatDoorQ4
import Derived.Test.YtkaihnlknncfdaaGreatDoorQ3
import Derived.Test.YtkaihnlknncfdaaGreatDoorQ1
import Derived.WalkKit
import Derived.BigQuiet
import Derived.Lib.QuietBelow
import Derived.Test.YtkaihnlknncfdaaGreatDoorRows
import Derived.Outline
import Derived.Maps.AppendAt
import Derived.Lib.Hide
import Derived.Laws.Rows
import Derived.BigRegion
import Derived.Deep.RegionHeld3
import Derived.Deep.RegionWith
import Derived.Deep.DeepCutAuto
/- Winners: mathematics. -/
namespace Go.Proofs.YtkaihnlknncfdaaGreatDoor
set_option maxRecDepth 100000
open Go.RowKit M
set_option linter.unusedVariables false
set_option linter.unusedSimpArgs false

/-- Row i is not worse than any of the first j rows. -/
def okK (M : List (List Int)) (r : List Int) (i j : Nat) : Bool := (List.range j).all fun k => decide (cmpL (M.getD i []) (M.getD k []) r ≤ 0)
theorem okK_succ (M : List (List Int)) (r : List Int) (i j : Nat) : okK M r i (j + 1) = (okK M r i j && decide (cmpL (M.getD i []) (M.getD j []) r ≤ 0)) := by
  unfold okK
  rw [List.range_succ, List.all_append]
  simp
theorem okK_iff {M : List (List Int)} {r : List Int} {i j : Nat} : okK M r i j = true ↔ ∀ k, k < j → cmpL (M.getD i []) (M.getD k []) r ≤ 0 := by
  unfold okK; simp
theorem okK_mono {M : List (List Int)} {r : List Int} {i j n : Nat} (hj : j ≤ n) (h : okK M r i j = false) : okK M r i n = false := by
  cases hn : okK M r i n with
  | false => rfl
  | true =>
    have h2 := okK_iff.1 hn
    rw [okK_iff.2 fun k hk => h2 k (by omega)] at h
    cases h
def winTo (M : List (List Int)) (r : List Int) (k : Nat) : List Int := ((List.range k).filter fun i => okK M r i M.length).map fun (i : Nat) => (i : Int)
def winL (M : List (List Int)) (r : List Int) : List Int := winTo M r M.length
theorem winTo_zero (M : List (List Int)) (r : List Int) : winTo M r 0 = [] := rfl
theorem winTo_yes {M : List (List Int)} {r : List Int} {k : Nat} (h : okK M r k M.length = true) : winTo M r (k + 1) = winTo M r k ++ [(k : Int)] := by
  unfold winTo; rw [List.range_succ, List.filter_append, List.map_append]; simp [h]
theorem winTo_no {M : List (List Int)} {r : List Int} {k : Nat} (h : okK M r k M.length = false) : winTo M r (k + 1) = winTo M r k := by
  unfold winTo; rw [List.range_succ, List.filter_append, List.map_append]; simp [h]
theorem winTo_len (M : List (List Int)) (r : List Int) (k : Nat) : (winTo M r k).length ≤ k := by
  unfold winTo
  rw [List.length_map]
  exact Nat.le_trans (List.length_filter_le _ _) (by simp)
theorem winTo_mem {M : List (List Int)} {r : List Int} {k : Nat} {z : Int} (h : z ∈ winTo M r k) : 0 ≤ z ∧ z < (k : Int) ∧ okK M r z.toNat M.length = true := by
  unfold winTo at h
  obtain ⟨i, hi, rfl⟩ := List.mem_map.1 h
  obtain ⟨h1, h2⟩ := List.mem_filter.1 hi
  have := List.mem_range.1 h1
  exact ⟨by omega, by omega, by rw [Int.toNat_natCast]; exact h2⟩
theorem win_i64 {M : List (List Int)} {r : List Int} {k : Nat} (hk : k ≤ 1000000000) : ∀ z ∈ winTo M r k, I64 z := fun z hz => by have := winTo_mem hz; unfold I64; omega
/-- The best of the first k rows. -/
def bestTo (M : List (List Int)) (r : List Int) (k : Nat) : List Int := ((List.range k).filter fun i => okK M r i k).map fun (i : Nat) => (i : Int)
theorem bestTo_zero (M : List (List Int)) (r : List Int) : bestTo M r 0 = [] := rfl
theorem bestTo_all (M : List (List Int)) (r : List Int) : bestTo M r M.length = winL M r := rfl
theorem bestTo_len (M : List (List Int)) (r : List Int) (k : Nat) : (bestTo M r k).length ≤ k := by
  unfold bestTo
  rw [List.length_map]
  exact Nat.le_trans (List.length_filter_le _ _) (by simp)
theorem bestTo_mem {M : List (List Int)} {r : List Int} {k : Nat} {z : Int} (h : z ∈ bestTo M r k) : 0 ≤ z ∧ z < (k : Int) ∧ okK M r z.toNat k = true := by
  unfold bestTo at h
  obtain ⟨i, hi, rfl⟩ := List.mem_map.1 h
  obtain ⟨h1, h2⟩ := List.mem_filter.1 hi
  have := List.mem_range.1 h1
  exact ⟨by omega, by omega, by rw [Int.toNat_natCast]; exact h2⟩
theorem best_i64 {M : List (List Int)} {r : List Int} {k : Nat} (hk : k ≤ 1000000000) : ∀ z ∈ bestTo M r k, I64 z := fun z hz => by have := bestTo_mem hz; unfold I64; omega
theorem okK_self (M : List (List Int)) (r : List Int) (k : Nat) : okK M r k (k + 1) = okK M r k k := by
  rw [okK_succ, cmpL_self]; simp
theorem bestTo_succ (M : List (List Int)) (r : List Int) (k : Nat) : bestTo M r (k + 1) = (((List.range k).filter fun i => okK M r i (k + 1)).map fun (i : Nat) => (i : Int)) ++ (if okK M r k k then [(k : Int)] else []) := by
  unfold bestTo
  rw [List.range_succ, List.filter_append, List.map_append]
  congr 1
  simp only [List.filter_cons, List.filter_nil, okK_self]
  split <;> rfl
theorem bestTo_first (M : List (List Int)) (r : List Int) : bestTo M r 1 = [0] := by
  rw [bestTo_succ]; rfl
theorem best_less {M : List (List Int)} {r : List Int} {k b : Nat} (hok : okK M r b k = true) (h : cmpL (M.getD k []) (M.getD b []) r < 0) : bestTo M r (k + 1) = [(k : Int)] := by
  have hB := okK_iff.1 hok
  have hk : okK M r k k = true := okK_iff.2 fun j hj => (cmpL_trans _ _ _ r (Int.le_of_lt h) (hB j hj)).1
  have hn : ((List.range k).filter fun i => okK M r i (k + 1)) = [] := by
    rw [List.filter_eq_nil_iff]
    intro i hi hg
    have hi := List.mem_range.1 hi
    have h1 := (cmpL_trans _ _ _ r (Int.le_of_lt h) (hB i hi)).2 (.inl h)
    have h2 := okK_iff.1 hg k (Nat.lt_succ_self k)
    rw [cmpL_swap] at h2
    omega
  rw [bestTo_succ, hn, hk]; rfl
theorem best_keep {M : List (List Int)} {r : List Int} {k b : Nat} (hb : b < k) (h : cmpL (M.getD b []) (M.getD k []) r ≤ 0) : ((List.range k).filter fun i => okK M r i (k + 1)).map (fun (i : Nat) => (i : Int)) = bestTo M r k := by
  unfold bestTo
  congr 1
  refine List.filter_congr fun i hi => ?_
  rw [okK_succ]
  cases hg : okK M r i k with
  | false => rfl
  | true =>
    have h1 := okK_iff.1 hg b hb
    have h2 := (cmpL_trans _ _ _ r h1 h).1
    rw [decide_eq_true h2]; rfl
theorem best_same {M : List (List Int)} {r : List Int} {k b : Nat} (hb : b < k) (hok : okK M r b k = true) (h : cmpL (M.getD k []) (M.getD b []) r = 0) : bestTo M r (k + 1) = bestTo M r k ++ [(k : Int)] := by
  have hB := okK_iff.1 hok
  have hk : okK M r k k = true := okK_iff.2 fun j hj => (cmpL_trans _ _ _ r (by omega) (hB j hj)).1
  have h2 := cmpL_swap (M.getD k []) (M.getD b []) r
  rw [bestTo_succ, best_keep hb (by omega), hk]; rfl
theorem best_more {M : List (List Int)} {r : List Int} {k b : Nat} (hb : b < k) (h : 0 < cmpL (M.getD k []) (M.getD b []) r) : bestTo M r (k + 1) = bestTo M r k := by
  have hk : okK M r k k = false := by
    cases hg : okK M r k k with
    | false => rfl
    | true => have := okK_iff.1 hg b hb; omega
  have h2 := cmpL_swap (M.getD k []) (M.getD b []) r
  rw [bestTo_succ, best_keep hb (by omega), hk]
  simp
theorem best_ne (M : List (List Int)) (r : List Int) : ∀ k, 0 < k → ∃ b rest, bestTo M r k = ((b : Nat) : Int) :: rest ∧ b < k ∧ okK M r b k = true
  | 0, h => by omega
  | k + 1, _ => by
    have key : ∀ l : List Int, bestTo M r (k + 1) = l → l ≠ [] → ∃ b rest, bestTo M r (k + 1) = ((b : Nat) : Int) :: rest ∧ b < k + 1 ∧ okK M r b (k + 1) = true := fun l hl hne => by
      obtain ⟨z, rest, rfl⟩ := List.exists_cons_of_ne_nil hne
      have hz := bestTo_mem (M := M) (r := r) (k := k + 1) (z := z) (by rw [hl]; exact List.mem_cons_self ..)
      exact ⟨z.toNat, rest, by rw [hl, Int.toNat_of_nonneg hz.1], by omega, hz.2.2⟩
    rcases Nat.eq_zero_or_pos k with h0 | h0
    · subst h0; exact key _ (bestTo_first M r) (by simp)
    · obtain ⟨b, rest, he, hb, hok⟩ := best_ne M r k h0
      rcases Int.lt_trichotomy (cmpL (M.getD k []) (M.getD b []) r) 0 with h | h | h
      · exact key _ (best_less hok h) (by simp)
      · exact key _ (best_same hb hok h) (by simp)
      · exact key _ (best_more hb h) (by rw [he]; simp)
/-- The winners of a table under a ranking. -/
def winW (x : DTableau) (r : List Int) : List Int := if isTab x && rkB r x.Names.length then winL x.Marks r else []
theorem winW_no {x : DTableau} {r : List Int} (h : (isTab x && rkB r x.Names.length) = false) : winW x r = [] := by unfold winW; rw [h]; rfl
theorem winW_yes {x : DTableau} {r : List Int} (h1 : isTab x = true) (h2 : rkB r x.Names.length = true) : winW x r = winL x.Marks r := by unfold winW; rw [h1, h2]; rfl
theorem tab_marks {x : DTableau} (h : isTab x = true) {k : Nat} {m : List Int} (hk : x.Marks[k]? = some m) : m.length = x.Names.length := by
  obtain ⟨_, _, _, _, h5⟩ := headT_parts (headT_of h)
  have hkl : k < x.Rows.length := by have := (List.getElem?_eq_some_iff.1 hk).1; omega
  have hr := isTab_row h hkl
  rw [rowAt_of (List.getElem?_eq_getElem hkl) hk] at hr
  obtain ⟨q1, _, q3⟩ := rowOk_parts hr
  rw [q3, profN_yes (headT_parts (headT_of h)).1 q1]
  simp [profTo]
theorem cmpV_tab {x : DTableau} {r : List Int} (h : isTab x = true) (hr : rkB r x.Names.length = true) {i k : Nat} {a b : List Int} (hi : x.Marks[i]? = some a) (hk : x.Marks[k]? = some b) : cmpV a b r = cmpL (x.Marks.getD i []) (x.Marks.getD k []) r := by
  have h1 := tab_marks h hi
  have h2 := tab_marks h hk
  unfold cmpV
  rw [h1, h2, hr, List.getD_eq_getElem?_getD, List.getD_eq_getElem?_getD, hi, hk]
  simp
end Go.Proofs.YtkaihnlknncfdaaGreatDoor

/- Best outputs: mathematics. -/
namespace Go.Proofs.YtkaihnlknncfdaaGreatDoor
set_option maxRecDepth 100000
open Go.RowKit M
set_option linter.unusedVariables false
set_option linter.unusedSimpArgs false

/-- The output of a row of the table. -/
def outX (x : DTableau) (z : Int) : ByteArray := ⟨(outS (x.Rows.getD z.toNat ⟨[]⟩).Links).toArray⟩
def addNew (o : List ByteArray) (s : ByteArray) : List ByteArray := if hasB o s then o else o ++ [s]
def optTo (x : DTableau) (W : List Int) (k : Nat) : List ByteArray := (W.take k).foldl (fun o z => addNew o (outX x z)) []
def optL (x : DTableau) (r : List Int) : List ByteArray := optTo x (winW x r) (winW x r).length
theorem optTo_zero (x : DTableau) (W : List Int) : optTo x W 0 = [] := by simp [optTo]
theorem optTo_step {x : DTableau} {W : List Int} {k : Nat} {z : Int} (h : W[k]? = some z) : optTo x W (k + 1) = addNew (optTo x W k) (outX x z) := by
  unfold optTo
  rw [List.take_add_one, h, List.foldl_append]; rfl
theorem addNew_yes {o : List ByteArray} {s : ByteArray} (h : hasB o s = true) : addNew o s = o := by unfold addNew; rw [h]; rfl
theorem addNew_no {o : List ByteArray} {s : ByteArray} (h : hasB o s = false) : addNew o s = o ++ [s] := by unfold addNew; rw [h]; rfl
theorem addNew_len (o : List ByteArray) (s : ByteArray) : (addNew o s).length ≤ o.length + 1 := by
  unfold addNew; split
  · omega
  · simp
theorem optTo_len (x : DTableau) (W : List Int) : ∀ k, (optTo x W k).length ≤ k
  | 0 => by simp [optTo]
  | k + 1 => by
    have ih := optTo_len x W k
    cases h : W[k]? with
    | none =>
      have hl := List.getElem?_eq_none_iff.1 h
      have e : optTo x W (k + 1) = optTo x W k := by unfold optTo; rw [List.take_of_length_le (by omega), List.take_of_length_le hl]
      rw [e]; omega
    | some z =>
      have := addNew_len (optTo x W k) (outX x z)
      rw [optTo_step h]; omega
theorem optTo_size {x : DTableau} {W : List Int} (hs : ∀ z ∈ W, (outX x z).size ≤ 9223372036854775807) : ∀ k, ∀ s ∈ optTo x W k, s.size ≤ 9223372036854775807
  | 0, s, h => by simp [optTo] at h
  | k + 1, s, h => by
    have ih := optTo_size hs k
    cases hk : W[k]? with
    | none =>
      have hl := List.getElem?_eq_none_iff.1 hk
      have e : optTo x W (k + 1) = optTo x W k := by unfold optTo; rw [List.take_of_length_le (by omega), List.take_of_length_le hl]
      rw [e] at h; exact ih s h
    | some z =>
      rw [optTo_step hk] at h
      unfold addNew at h
      split at h
      · exact ih s h
      · rcases List.mem_append.1 h with h | h
        · exact ih s h
        · simp at h; subst h; exact hs z (List.mem_of_getElem? hk)
/-- A winner is a row of a valid table. -/
theorem win_row {x : DTableau} {r : List Int} {k : Nat} {z : Int} (h : (winW x r)[k]? = some z) : ∃ (b : Nat) (c : DCandidate), z = (b : Int) ∧ b < x.Rows.length ∧ x.Rows[b]? = some c ∧ outX x z = ⟨(outS c.Links).toArray⟩ := by
  have hm := List.mem_of_getElem? h
  have ht : isTab x = true := by
    cases ht : isTab x with
    | true => rfl
    | false => rw [winW_no (by rw [ht]; rfl)] at hm; simp at hm
  have hr : rkB r x.Names.length = true := by
    cases hr : rkB r x.Names.length with
    | true => rfl
    | false => rw [winW_no (by rw [hr, Bool.and_false])] at hm; simp at hm
  have hml := (headT_parts (headT_of ht)).2.2.2.2
  rw [winW_yes ht hr] at hm
  have hz := winTo_mem hm
  have hb : z.toNat < x.Rows.length := by omega
  have hc := List.getElem?_eq_getElem hb
  refine ⟨z.toNat, _, by omega, hb, hc, ?_⟩
  unfold outX
  rw [List.getD_eq_getElem?_getD, hc]; rfl
theorem out_size (l : List DLink) : ((⟨(outS l).toArray⟩ : ByteArray)).size ≤ l.length := by
  exact outT_size l
theorem winW_rows (x : DTableau) (r : List Int) : (winW x r).length ≤ x.Marks.length := by
  unfold winW
  split
  · exact winTo_len _ _ _
  · simp
end Go.Proofs.YtkaihnlknncfdaaGreatDoor

/- The laws' toStringS. -/
namespace Go.Proofs.YtkaihnlknncfdaaGreatDoor
set_option maxRecDepth 100000
open Go.RowKit Go.Sort
set_option linter.unusedVariables false
set_option linter.unusedSimpArgs false

theorem Tryz.infoTString : (Tryz.prog.info? 9).map (fun i => (i.zero, i.size, i.bytes)) = some (some (.string ⟨#[]⟩), 1, 16) := by kernel_rfl
/-- The new row's capacity is its length. -/
def OwnPostS (l : List ByteArray) (w : World) (e : Ending) (w' : World) : Prop := ∃ A, e = .returned (.slice A l.length l.length) ∧ RowRd (Rep.str mkT) true w' (.slice A l.length l.length) l (fun a => w.heap.size ≤ a.block) ∧ Below w.heap.size w w'
set_option maxHeartbeats 2000000 in
theorem toStringS_any (v : Value) (l : List ByteArray) (F : Addr → Prop) (w : World) (hm : szRow (Rep.str mkT) l ≤ 1048576) (hv : RowRd (Rep.str mkT) false w v l F) :
    Calls Tryz.prog 35 #[v] w (OwnPostS l w) := by
  have hml := Nat.le_trans (szRow_len (Rep.str mkT) l) hm
  obtain ⟨A, cap, rfl⟩ := hv.form
  have HV := Lib.hid hv
  have HSZ : Hid (∀ k x, l[k]? = some x → (Rep.str mkT).sz x ≤ 1048576) := fun k x h => Nat.le_trans (szRow_at _ _ _ h) hm
  clear hv hm
  have HX : Hid (∀ k, k < l.length → ∃ x, l[k]? = some x) := fun k hk => ⟨_, List.getElem?_eq_getElem hk⟩
  have H0 := Lib.hid (cpTo_zero ByteArray.empty l)
  have HA := Lib.hid (cpTo_all ByteArray.empty l)
  have HAT := Lib.hid (cpTo_at ByteArray.empty l)
  have HST : Hid (∀ k x, l[k]? = some x → (cpTo ByteArray.empty l k).set k x = cpTo ByteArray.empty l (k + 1)) := fun k x h => cpTo_step _ _ _ h
  have HP : Hid (∀ (A : Option Addr) (w' : World), RowRd (Rep.str mkT) true w' (.slice A l.length l.length) l (fun a => w.heap.size ≤ a.block) → Below w.heap.size w w' → OwnPostS l w (.returned (.slice A l.length l.length)) w') := fun u w' h1 h2 => ⟨u, rfl, h1, h2⟩
  generalize hll : l.length = n at *
  clear hll
  obtain ⟨i0, hi, hz0, hz1, hz2⟩ := info_parts Tryz.infoTString
  go_enter Tryz.func35, Tryz.ntmps35
  go_wp2_with (at_make; refine wpList_make_full _ rfl _ _ 22 rfl w.heap.size 9 i0 (.string ⟨#[]⟩) 1 Tryz.underlying22 hi hz0 hz1 .i64 .i64 _ _ n rfl rfl rfl rfl (by rw [hz2]; omega) (by unfold maxLen; omega) (Nat.le_refl _) ?_; intro w1 hown1 hgrow1)
  have hb1 : Below w.heap.size w w1 := (Below.refl _ _).grown hgrow1 (Nat.le_refl _) (fun _ h => by cases h)
  have HO1 : Hid (RowRd (Rep.str mkT) true w1 (.slice (some ⟨w.heap.size, 0, none⟩) n n) (cpTo ByteArray.empty l 0) (fun a => w.heap.size ≤ a.block)) := by
    unfold Hid
    rw [H0.out]
    rw [show (Value.cells (.string ⟨#[]⟩)) = #[.string ⟨#[]⟩] from rfl] at hown1
    have hlr : (List.replicate n (ByteArray.empty : ByteArray)).length = n := List.length_replicate
    refine (RowRd.of_flat (E := (Rep.str mkT)) (l := List.replicate n ByteArray.empty) (base := w.heap.size) (e := 9) (cells := (madeCells #[.string ⟨#[]⟩] (n * 1)).toList) (by rw [hlr]; exact hown1) (by rw [hlr]; omega) ?_).mono (fun a ha => ha.1)
    intro k x hk
    rw [List.getElem?_replicate] at hk
    split at hk
    · cases hk
      refine ⟨[.string ⟨#[]⟩], ?_, ⟨rfl, by decide⟩⟩
      intro j u hj
      have hjn : j < 1 := (List.getElem?_eq_some_iff.1 hj).1
      rw [show (Rep.str mkT).size = 1 from rfl, made_at _ _ _ (by omega) (by decide), show (#[.string ⟨#[]⟩] : Array Value).size = 1 from rfl, show (k * 1 + j) % 1 = j by omega]
      simpa using hj
    · cases hk
  have HB1 := Lib.hid hb1
  clear hown1 hgrow1 hb1
  go_wp2
  go_loopw [4] (fun i wr => ∃ (k : Nat), k ≤ n ∧ i = .int .i64 k ∧ RowRd (Rep.str mkT) true wr (.slice (some ⟨w.heap.size, 0, none⟩) n n) (cpTo ByteArray.empty l k) (fun a => w.heap.size ≤ a.block) ∧ Below w.heap.size w wr) (fun i _ => n - (intOf i).toNat)
  case atStart => exact ⟨0, by omega, rfl, HO1.out, HB1.out⟩
  case round =>
    obtain ⟨k, hk, rfl, hrow, hbe⟩ := hrel
    have HBE := Lib.hid hbe
    clear hbe
    by_cases hkl : k < n
    · obtain ⟨x, hx⟩ := HX.out k hkl
      have HSX := Lib.hid (HST.out k x hx)
      have hszx := HSZ.out k x hx
      obtain ⟨sg, so, xs, Fs, rfl, _, hsr, _, hsc⟩ := (HV.out.kept HBE.out).get hx
      simp only [show (Rep.str mkT).size = 1 from rfl, Nat.mul_one] at hsc
      obtain ⟨rfl, i0'⟩ := id hsr
      have c0 := hsc 0 _ rfl
      simp only [Nat.add_zero] at c0
      clear hsc hsr
      have hrow2 := hrow.tight
      clear hrow
      obtain ⟨g, off, ys, Fk, hge, hrd, hel, hFk, hcl, hput⟩ := hrow2.open (HAT.out k hkl)
      cases hge
      simp only [show (Rep.str mkT).size = 1 from rfl, Nat.mul_one] at hel hcl hput
      simp only [Nat.zero_add] at hel hput
      obtain ⟨rfl, _⟩ := id hrd
      have d0 := hel.cell 0 rfl
      have f0 := hel.free 0 (by decide)
      simp only [Nat.zero_add, Nat.add_zero] at d0 f0
      have hs0 := hel.set 0 (by decide) (.string x)
      simp only [List.set, Nat.zero_add, Nat.add_zero] at hs0
      have HBB := Lib.hid (HBE.out.setCell (p := ⟨w.heap.size, k, none⟩) (Nat.le_refl _) (.string x))
      have HNEW := Lib.hid ((hput _ _ x (fun _ => False) hs0 (⟨rfl, i0'⟩) (fun a h => h.elim)).mono (fun a h => h.elim (fun h => h.1) (fun h => h.elim)))
      rw [HSX.out] at HNEW
      clear hput hel hs0 hrd hFk hcl
      try clear hrow2
      go_wp2
      go_roundw
      case rel => exact ⟨k + 1, by omega, by go_num, HNEW.out, HBB.out⟩
      case measure => simp [intOf]; omega
    · obtain rfl : k = n := by omega
      rw [HA.out] at hrow
      have HRR := Lib.hid hrow
      clear hrow
      go_wp2
      go_ret
      exact HP.out _ _ HRR.out HBE.out
end Go.Proofs.YtkaihnlknncfdaaGreatDoor

/- Appending one text to a row of texts that the call made: a law for the walk; rows of texts read place by place. -/
namespace Go.Proofs.YtkaihnlknncfdaaGreatDoor
set_option maxRecDepth 100000
open Go.RowKit
def cellsS (l : List ByteArray) : List Value := l.map fun z => .string z
theorem cellsS_len (l : List ByteArray) : (cellsS l).length = l.length := by simp [cellsS]
theorem cellsS_append (a b : List ByteArray) : cellsS (a ++ b) = cellsS a ++ cellsS b := by simp [cellsS]
theorem cellsS_at (l : List ByteArray) (k : Nat) (h : k < l.length) : (cellsS l)[k]? = some (.string (l.getD k ByteArray.empty)) := by
  unfold cellsS; rw [List.getElem?_map, List.getElem?_eq_getElem h]; simp [h]
theorem Tryz.info9s : (Tryz.prog.info? 9).map (fun i => (i.zero, i.size, i.bytes)) = some (some (.string ⟨#[]⟩), 1, 16) := by kernel_rfl
theorem wpList_append_str {ops : Array Oper} {rest : List Oper} {o : Oper} {a : Act} {Q : Exit → Act → World → Prop} (w : World) (hgd : o.guard = none) (s x : Operand)
    (ho : o.op = .call { callee := .builtin .append, args := #[s, x], argTypes := #[22, 22] })
    (base : Nat) (v : Value) (n : Nat) (l : List ByteArray) (hs : a.eval s = v) (hown : w.ownsRow base 9 1 v n (cellsS l)) (b : ByteArray)
    (hx : a.eval x = .slice (some ⟨w.heap.size, 0, none⟩) 1 1) (hn : n ≤ 1000000000) (hbase : base ≤ w.heap.size)
    (h : ∀ v' w', w'.ownsRow base 9 1 v' (n + 1) (cellsS (l ++ [b])) → Below base w w' → wpList Tryz.prog ops Q rest (a.put o.dst v') w') :
    wpList Tryz.prog ops Q (o :: rest) a (w.alloc (.cells #[.string b] 9)) := by
  obtain ⟨i0, hi, hz0, hz1, hz2⟩ := info_parts Tryz.info9s
  refine wpList_append_own (w.alloc (.cells #[.string b] 9)) hgd s x 22 ho base 9 i0 (.string ⟨#[]⟩) 1 16 Tryz.underlying22 hi hz0 hz1 hz2 rfl (by decide) v n (cellsS l) hs (hown.alloc _) ⟨w.heap.size, 0, none⟩ 1 1 [.string b] hx rfl (cell_one_new _ _ _)
    (fun u hu => by simp at hu; subst hu; rfl) (by unfold maxLen; omega) (by omega) (by simp; omega) ?_
  intro v' w' h1 h2 _
  refine h v' w' (by rw [cellsS_append]; exact h1) ?_
  exact ((Below.refl base w).alloc hbase _).grown h2 (by simp; omega) (fun q hq => (hown.lt q hq).1)
/-- The same as one step of a region that draws its order. -/
theorem step_append_str {ops : Array Oper} {o : Oper} {a : Act} {K : Act → World → Prop} {Q : Exit → Act → World → Prop} {E : Prop} (w : World) (hgd : o.guard = none) (s x : Operand)
    (ho : o.op = .call { callee := .builtin .append, args := #[s, x], argTypes := #[22, 22] })
    (base : Nat) (v : Value) (n : Nat) (l : List ByteArray) (hs : a.eval s = v) (hown : w.ownsRow base 9 1 v n (cellsS l)) (b : ByteArray)
    (hx : a.eval x = .slice (some ⟨w.heap.size, 0, none⟩) 1 1) (hn : n ≤ 1000000000) (hbase : base ≤ w.heap.size)
    (h : ∀ v' w', w'.ownsRow base 9 1 v' (n + 1) (cellsS (l ++ [b])) → Below base w w' → K (a.put o.dst v') w') :
    if Region.wanted o (yielded ops a.tmps) = true then Oper.wp Tryz.prog o a (w.alloc (.cells #[.string b] 9)) K Q else E := by
  have hw : Region.wanted o (yielded ops a.tmps) = true := by simp [Region.wanted, hgd]
  rw [if_pos hw]
  obtain ⟨i0, hi, hz0, hz1, hz2⟩ := info_parts Tryz.info9s
  refine wp_append_own (w.alloc (.cells #[.string b] 9)) s x 22 ho base 9 i0 (.string ⟨#[]⟩) 1 16 Tryz.underlying22 hi hz0 hz1 hz2 rfl (by decide) v n (cellsS l) hs (hown.alloc _) ⟨w.heap.size, 0, none⟩ 1 1 [.string b] hx rfl (cell_one_new _ _ _)
    (fun u hu => by simp at hu; subst hu; rfl) (by unfold maxLen; omega) (by omega) (by simp; omega) ?_
  intro v' w' h1 h2 _
  refine h v' w' (by rw [cellsS_append]; exact h1) ?_
  exact ((Below.refl base w).alloc hbase _).grown h2 (by simp; omega) (fun q hq => (hown.lt q hq).1)
theorem step_append_str_drew {ops : Array Oper} {o : Oper} {a : Act} {K : Act → World → Prop} {Q : Exit → Act → World → Prop} {E : Prop} (w : World) (hgd : o.guard = none) (s x : Operand)
    (ho : o.op = .call { callee := .builtin .append, args := #[s, x], argTypes := #[22, 22] })
    (base : Nat) (v : Value) (n : Nat) (l : List ByteArray) (hown : w.ownsRow base 9 1 v n (cellsS l)) (b : ByteArray) (hn : n ≤ 1000000000) (hbase : base ≤ w.heap.size)
    (hs : a.eval s = v) (hx : a.eval x = .slice (some ⟨w.heap.size, 0, none⟩) 1 1)
    (h : ∀ v' w', w'.ownsRow base 9 1 v' (n + 1) (cellsS (l ++ [b])) → Below base w w' → K (a.put o.dst v') w') :
    if Region.wanted o (yielded ops a.tmps) = true then Oper.wp Tryz.prog o a ((w.alloc (.cells #[.string b] 9)).drew) K Q else E :=
  step_append_str w.drew hgd s x ho base v n l hs hown.drew b hx hn hbase fun v' w' h1 h2 => h v' w' h1 ⟨h2.os, h2.tape, h2.output, h2.size, h2.block⟩
theorem str_read {w : World} {base : Nat} {v : Value} {l : List ByteArray} (h : w.ownsRow base 9 1 v l.length (cellsS l)) :
    ∃ A cap, v = .slice A l.length cap ∧ ∀ k, k < l.length → ∃ g, A = some ⟨g, 0, none⟩ ∧ w.cell? ⟨g, k, none⟩ = some (.string (l.getD k ByteArray.empty)) := by
  have hh := h
  rcases h.2 with ⟨rfl, hn⟩ | ⟨g, cap, cur, rfl, _⟩
  · exact ⟨none, 0, by rw [hn], fun k hk => by omega⟩
  · refine ⟨some ⟨g, 0, none⟩, cap, rfl, fun k hk => ⟨g, rfl, ?_⟩⟩
    have hc : (cellsS l).length = l.length := cellsS_len l
    rw [hh.cellAt k (by omega), cellsS_at l k hk]
theorem str_form {w : World} {base : Nat} {v : Value} {n : Nat} {xs : List Value} (h : w.ownsRow base 9 1 v n xs) (hn : 0 < n) : ∃ g cap, v = .slice (some ⟨g, 0, none⟩) n cap ∧ base ≤ g := by
  rcases h.2 with ⟨rfl, h0⟩ | ⟨g, cap, cur, rfl, hb, _⟩
  · omega
  · exact ⟨g, cap, rfl, hb⟩
/-- A new empty row of texts. -/
theorem str_empty (w : World) : (w.alloc (.cells #[] 9)).ownsRow w.heap.size 9 1 (.slice (some ⟨w.heap.size, 0, none⟩) 0 0) ([] : List ByteArray).length (cellsS []) :=
  ⟨rfl, Or.inr ⟨w.heap.size, 0, #[], rfl, Nat.le_refl _, heap_alloc_new _ _, Nat.le_refl _, Nat.zero_le _, rfl, rfl⟩⟩
/-- A new row of one text. -/
theorem str_one (w : World) (b : ByteArray) : (w.alloc (.cells #[.string b] 9)).ownsRow w.heap.size 9 1 (.slice (some ⟨w.heap.size, 0, none⟩) 1 1) ([b] : List ByteArray).length (cellsS [b]) :=
  ⟨rfl, Or.inr ⟨w.heap.size, 1, #[.string b], rfl, Nat.le_refl _, heap_alloc_new _ _, Nat.le_refl _, by unfold maxLen; omega, rfl, rfl⟩⟩
/-- It answers with a row of its own that holds these texts. -/
def StrsPost (l : List ByteArray) (w : World) (e : Ending) (w' : World) : Prop := ∃ v, e = .returned v ∧ w'.ownsRow w.heap.size 9 1 v l.length (cellsS l) ∧ Below w.heap.size w w'
end Go.Proofs.YtkaihnlknncfdaaGreatDoor

/- Names of constraints: the model's ConstraintNames, l3Has, IsMarkedness: what they answer. -/
namespace Go.Proofs.YtkaihnlknncfdaaGreatDoor
set_option maxRecDepth 100000
open Go.RowKit Go.Sort M
set_option linter.unusedVariables false
set_option linter.unusedSimpArgs false

theorem toList_inj10 {a b : ByteArray} (h : a.toList = b.toList) : a = b := by
  rw [Lib.toList_data, Lib.toList_data] at h
  apply ByteArray.ext
  exact Array.toList_inj.1 h
theorem RowRd.of_strs {w : World} {base : Nat} {v : Value} {l : List ByteArray} (m : Nat → ByteArray) (h : w.ownsRow base 9 1 v l.length (cellsS l)) (hm : l.length ≤ 9223372036854775807) (hz : ∀ z ∈ l, z.size ≤ 9223372036854775807) : RowRd (Rep.str m) true w v l (fun a => base ≤ a.block ∧ a.block < w.heap.size) :=
  RowRd.of_flat (E := Rep.str m) h hm fun k x hk => ⟨[.string x], fun j u hj => by
    match j, hj with
    | 0, hj =>
      simp at hj
      subst hj
      have hkl := (List.getElem?_eq_some_iff.1 hk).1
      rw [show (Rep.str m).size = 1 from rfl, Nat.mul_one, Nat.add_zero, cellsS_at l k hkl, List.getD_eq_getElem?_getD, hk]
      rfl, rfl, hz x (List.mem_of_getElem? hk)⟩
/-- A new row of these texts. -/
theorem str_new (w : World) (l : List ByteArray) (n : Nat) (cs : Array Value) (hn : l.length = n) (hc : cs.toList = cellsS l) (hm : n ≤ 1000000) : (w.alloc (.cells cs 9)).ownsRow w.heap.size 9 1 (.slice (some ⟨w.heap.size, 0, none⟩) n n) l.length (cellsS l) := by
  subst hn
  have hs : cs.size = l.length := by rw [← Array.length_toList, hc, cellsS_len]
  exact ⟨by rw [cellsS_len, Nat.mul_one], Or.inr ⟨w.heap.size, l.length, cs, rfl, Nat.le_refl _, heap_alloc_new _ _, Nat.le_refl _, by unfold maxLen; omega, by rw [hs, Nat.mul_one], by rw [hc, Nat.mul_one, ← cellsS_len l, List.take_length]⟩⟩
/-- The ten names in a row of one's own. -/
def NmPost (w : World) (e : Ending) (w' : World) : Prop := ∃ g cap, e = .returned (.slice (some ⟨g, 0, none⟩) 10 cap) ∧ 10 ≤ cap ∧ cap ≤ 1000000 ∧ w.heap.size ≤ g ∧ w'.ownsRow w.heap.size 9 1 (.slice (some ⟨g, 0, none⟩) 10 cap) namesB.length (cellsS namesB) ∧ Below w.heap.size w w'
theorem names_short : ∀ z ∈ namesB, z.size ≤ 9223372036854775807 := fun z hz => by
  obtain ⟨k, hk, rfl⟩ := List.getElem_of_mem hz
  have := name_size (hasB_yes (List.getElem?_eq_getElem hk))
  omega
theorem specNames_any (w : World) : Calls Tryz.prog 111 #[] w (NmPost w) := by
  go_enter Tryz.func111, Tryz.ntmps111
  go_wp2
  go_ret
  exact ⟨_, _, rfl, Nat.le_refl _, by omega, Nat.le_refl _, str_new w namesB 10 _ rfl rfl (by omega), (Below.refl _ _).alloc (Nat.le_refl _) _⟩
/-- Some places of a row, one after the other. -/
theorem RowRd.part {α : Type} {E : Rep α} {w : World} {g off n cap : Nat} {l : List α} {F : Addr → Prop} (h : RowRd E false w (.slice (some ⟨g, off, none⟩) n cap) l F) (f e c : Nat) (he : e ≤ l.length) (hc : e - f ≤ c) :
    RowRd E false w (.slice (some ⟨g, off + f * E.size, none⟩) (e - f) c) ((l.take e).drop f) F := by
  have hm := h.max
  obtain ⟨A', cap', Fk, hv, _, hr⟩ := h
  cases hv
  have hlen : ((l.take e).drop f).length = e - f := by rw [List.length_drop, List.length_take]; omega
  refine ⟨some ⟨g, off + f * E.size, none⟩, c, fun k => Fk (f + k), by rw [hlen], ⟨by rw [hlen]; omega, (fun h => by cases h), by rw [hlen]; exact hc⟩, fun k x hk => ?_⟩
  have hk1 : k < e - f := by rw [← hlen]; exact (List.getElem?_eq_some_iff.1 hk).1
  rw [List.getElem?_drop, List.getElem?_take, if_pos (by omega)] at hk
  obtain ⟨g2, off2, xs, ha, h1, h2, h3, h4⟩ := hr (f + k) x hk
  cases ha
  refine ⟨g, off + f * E.size, xs, rfl, h1, h2, fun j u hj => ?_, fun h => by cases h⟩
  have h5 := h3 j u hj
  rw [Nat.add_mul, ← Nat.add_assoc] at h5
  exact ⟨h5.1, h5.2.1, fun h => by cases h⟩
/-- The first places of a row. -/
theorem RowRd.head {α : Type} {E : Rep α} {w : World} {g off n cap : Nat} {l : List α} {F : Addr → Prop} (h : RowRd E false w (.slice (some ⟨g, off, none⟩) n cap) l F) (e c : Nat) (he : e ≤ l.length) (hc : e ≤ c := by omega) :
    RowRd E false w (.slice (some ⟨g, off, none⟩) e c) (l.take e) F := by
  have := h.part 0 e c he (by omega)
  simpa using this
set_option maxHeartbeats 1000000 in
theorem specHasN_any (m : Nat → ByteArray) (l : List ByteArray) (v : Value) (F : Addr → Prop) (x : ByteArray) (w : World) (hl : l.length ≤ 1000000000) (hv : RowRd (Rep.str m) false w v l F) :
    Calls Tryz.prog 62 #[v, .string x] w fun e w' => e = .returned (.bool (hasB l x)) ∧ w = w' := by
  obtain ⟨A, cap, rfl⟩ := hv.form
  have HV := Lib.hid hv
  clear hv
  have HX : Hid (∀ k, k < l.length → ∃ y, l[k]? = some y) := fun k hk => ⟨_, List.getElem?_eq_getElem hk⟩
  go_enter Tryz.func62, Tryz.ntmps62
  go_wp2
  go_loop [5] (fun i => ∃ (k : Nat), k ≤ l.length ∧ i = .int .i64 k ∧ Hid (∀ (j : Nat) (y : ByteArray), j < k → l[j]? = some y → ¬ y = x)) (fun i => l.length - (intOf i).toNat)
  case atStart => exact ⟨0, by omega, rfl, fun j y hj => by omega⟩
  case round =>
    obtain ⟨k, hk, rfl, hall⟩ := hrel
    by_cases hkl : k < l.length
    · obtain ⟨y, hy⟩ := HX.out k hkl
      obtain ⟨g, off, xs, Fk, rfl, _, hra, _, hca⟩ := HV.out.get hy
      obtain ⟨rfl, _⟩ := hra
      rw [show (Rep.str m).size = 1 from rfl] at hca
      have c0 := hca 0 _ rfl
      simp only [Nat.add_zero, Nat.mul_one] at c0
      clear hca
      have HY := Lib.hid hy
      clear hy
      go_wp2
      · have hq : (y.toList == x.toList) = true := by assumption
        have he : y = x := by
          rw [beq_iff_eq] at hq
          exact toList_inj10 hq
        have HN : Hid (hasB l x = true) := he ▸ hasB_yes HY.out
        go_ret
        exact ⟨by first | exact ret_bool HN.out | exact ret_bool HN.out.symm, rfl⟩
      · rename_i hq
        have he : ¬ y = x := fun e => by rw [e] at hq; simp at hq
        go_round
        case rel =>
          refine ⟨k + 1, by omega, by go_num, fun j z hj hz => ?_⟩
          by_cases e : j = k
          · subst e; rw [HY.out] at hz; cases hz; exact he
          · exact hall.out j z (by omega) hz
        case measure => simp [intOf]; omega
    · obtain rfl : k = l.length := by omega
      have HN : Hid (hasB l x = false) := hasB_no fun j y hj => hall.out j y (List.getElem?_eq_some_iff.1 hj).1 hj
      clear hall
      go_wp2
      go_ret
      exact ⟨by first | exact ret_bool HN.out | exact ret_bool HN.out.symm, rfl⟩
end Go.Proofs.YtkaihnlknncfdaaGreatDoor

/- Best outputs: what both sides share. -/
namespace Go.Proofs.YtkaihnlknncfdaaGreatDoor
set_option maxRecDepth 100000
open Go.RowKit Go.Sort M
set_option linter.unusedVariables false
set_option linter.unusedSimpArgs false

theorem infoStrO12 : (Tryz.prog.info? 9).map (fun i => (i.zero, i.size, i.bytes)) = some (some (.string ⟨#[]⟩), 1, 16) := by kernel_rfl
theorem OwnRd.formS12 {α : Type} {E : Rep α} {e : TypeId} {s : Bool} {base : Nat} {w : World} {v : Value} {l : List α} {G : Addr → Prop} (h : OwnRd E e s base w v l G) : ∃ A cap, v = .slice A l.length cap := by
  obtain ⟨c, _, ho, _⟩ := h
  rcases ho.2 with ⟨h1, h2⟩ | ⟨g, cap, _, h1, _⟩
  · exact ⟨none, 0, by rw [h1, h2]⟩
  · exact ⟨_, cap, h1⟩
theorem winW_250 (x : DTableau) (r : List Int) : (winW x r).length ≤ 250 := by
  have h := winW_rows x r
  cases ht : isTab x with
  | false => rw [winW_no (by rw [ht]; rfl)]; simp
  | true => have := headT_parts (headT_of ht); omega
def OptPost (l : List ByteArray) (w : World) (e : Ending) (w' : World) : Prop := ∃ v, e = .returned v ∧ RowRd (Rep.str mkT) true w' v l (fun a => w.heap.size ≤ a.block) ∧ Below w.heap.size w w'
end Go.Proofs.YtkaihnlknncfdaaGreatDoor

/- Names of constraints: the model's AreConstraints: what it answers. -/
namespace Go.Proofs.YtkaihnlknncfdaaGreatDoor
set_option maxRecDepth 100000
open Go.RowKit Go.Sort M
set_option linter.unusedVariables false
set_option linter.unusedSimpArgs false

theorem specIn10_any (x a b : Int) (w : World) :
    Calls Tryz.prog 86 #[.int .i64 x, .int .i64 a, .int .i64 b] w fun e w' => e = .returned (.bool (decide (a ≤ x) && decide (x ≤ b))) ∧ w = w' := by
  go_enter Tryz.func86, Tryz.ntmps86
  go_wp2
  all_goals
    go_ret
    refine ⟨ret_bool ?_, rfl⟩
    simp_all <;> omega
set_option maxHeartbeats 2000000 in
theorem specAre_any (m : Nat → ByteArray) (l : List ByteArray) (A : Option Addr) (cap : Nat) (F : Addr → Prop) (w : World) (hl : l.length ≤ 1000000000) (hcap : l.length ≤ cap) (hv : RowRd (Rep.str m) false w (.slice A l.length cap) l F) :
    Calls Tryz.prog 75 #[.slice A l.length cap] w fun e w' => e = .returned (.bool (areC l)) ∧ Below w.heap.size w w' := by
  have HV := Lib.hid hv
  clear hv
  have HX : Hid (∀ k, k < l.length → ∃ y, l[k]? = some y) := fun k hk => ⟨_, List.getElem?_eq_getElem hk⟩
  go_enter Tryz.func75, Tryz.ntmps75
  go_wp2
  go_loopw [3] (fun i wr => ∃ (k : Nat), k ≤ l.length ∧ i = .int .i64 k ∧ Hid (∀ (j : Nat) (y : ByteArray), j < k → l[j]? = some y → hasB namesB y = true ∧ hasB (l.take j) y = false) ∧ Below w.heap.size w wr) (fun i _ => l.length - (intOf i).toNat)
  case atStart => exact ⟨0, by omega, rfl, fun j y hj => by omega, Below.refl _ _⟩
  case round =>
    obtain ⟨k, hk, rfl, hall, hbe0⟩ := hrel
    obtain ⟨w2, rfl⟩ : ∃ w2 : World, w2 = wr := ⟨_, rfl⟩
    have HB := Lib.hid hbe0
    clear hbe0
    by_cases hkl : k < l.length
    · obtain ⟨y, hy⟩ := HX.out k hkl
      have hvk := HV.out.kept HB.out
      obtain ⟨g, off, xs, Fk, rfl, _, hra, _, hca⟩ := hvk.get hy
      obtain ⟨rfl, _⟩ := hra
      rw [show (Rep.str m).size = 1 from rfl] at hca
      have c0 := hca 0 _ rfl
      simp only [Nat.add_zero, Nat.mul_one] at c0
      clear hca
      have HY := Lib.hid hy
      have HVK := Lib.hid hvk
      clear hy hvk
      have hkc : (k : Int) ≤ (cap : Int) := by omega
      have HCE : Hid (∀ W : World, Below w2.heap.size w2 W → W.cell? ⟨g, off + k, none⟩ = some (.string y)) := fun W hW => cell_kept hW c0
      have HH2 : Hid (∀ W : World, Below w2.heap.size w2 W → Calls Tryz.prog 62 #[.slice (some ⟨g, off, none⟩) k cap, .string y] W fun e w' => e = .returned (.bool (hasB (l.take k) y)) ∧ W = w') := fun W hW => specHasN_any m (l.take k) (.slice (some ⟨g, off, none⟩) k cap) F y W (by rw [List.length_take]; omega) ((HVK.out.kept hW).head k cap (by omega))
      have HH1 : Hid (∀ (W : World) (v : Value) (G : Addr → Prop), RowRd (Rep.str m) false W v namesB G → Calls Tryz.prog 62 #[v, .string y] W fun e w' => e = .returned (.bool (hasB namesB y)) ∧ W = w') := fun W v G hW => specHasN_any m namesB v G y W (by decide) hW
      have HN : Hid (∀ b c, hasB namesB y = b → hasB (l.take k) y = c → (b = false ∨ c = true) → areC l = false) := fun b c h1 h2 h => areC_bad HY.out (h.elim (fun h => .inl (h1.trans h)) (fun h => .inr (h2.trans h)))
      have HG : Hid (∀ b c, hasB namesB y = b → hasB (l.take k) y = c → b = true → c = false → ∀ (j : Nat) (z : ByteArray), j < k + 1 → l[j]? = some z → hasB namesB z = true ∧ hasB (l.take j) z = false) := fun b c h1 h2 hb hc j z hj hz => by
        by_cases e : j = k
        · subst e; rw [HY.out] at hz; cases hz; exact ⟨h1.trans hb, h2.trans hc⟩
        · exact hall.out j z (by omega) hz
      generalize hB : hasB namesB y = bn at *
      generalize hC : hasB (l.take k) y = bt at *
      have HN2 := Lib.hid (HN.out _ _ rfl rfl)
      have HG2 := Lib.hid (HG.out _ _ rfl rfl)
      clear HN HG hall c0 hB hC
      go_upto_region 4 with fail
      go_cut [26] (fun b wx => b = .bool (!bn || bt) ∧ Below w2.heap.size w2 wx)
      case first =>
        refine wp_region_held_drew (S := fun w' => Below w2.heap.size w2 w') (by kernel_rfl) ((Below.refl _ _).drew) (fun hHeld => ?_)
        cases bn
        · refine' wpAnyH_take (i := 1) (oi := _) (v := ?v1) rfl ?hs1 ?hf1 ?hr1 ?hQ1 (Or.inl ⟨?hw1, ?hy1⟩) hHeld ?rest1
          case hs1 => kernel_rfl
          case hf1 => kernel_rfl
          case hr1 => kernel_rfl
          case hQ1 => exact fun _ _ _ h => h
          case hw1 => kernel_rfl
          case hy1 => (intro w' hw'; go_simp; try with_reducible rfl)
          (try change wpAnyH _ _ _ _ _ _ _ (Act.put _ (some 11) _) _)
          try simp only [Act.put, List.setIfInBounds_toArray, List.set_cons_zero, List.set_cons_succ]
          refine' wpAnyH_take (i := 2) (oi := _) (v := ?v2) rfl ?hs2 ?hf2 ?hr2 ?hQ2 (Or.inl ⟨?hw2, ?hy2⟩) hHeld ?rest2
          case hs2 => kernel_rfl
          case hf2 => kernel_rfl
          case hr2 => kernel_rfl
          case hQ2 => exact fun _ _ _ h => h
          case hw2 => kernel_rfl
          case hy2 => (intro w' hw'; go_simp; try with_reducible rfl)
          (try change wpAnyH _ _ _ _ _ _ _ (Act.put _ (some 12) _) _)
          try simp only [Act.put, List.setIfInBounds_toArray, List.set_cons_zero, List.set_cons_succ]
          refine' wpAnyH_take (i := 3) (oi := _) (v := ?v3) rfl ?hs3 ?hf3 ?hr3 ?hQ3 (Or.inl ⟨?hw3, ?hy3⟩) hHeld ?rest3
          case hs3 => kernel_rfl
          case hf3 => kernel_rfl
          case hr3 => kernel_rfl
          case hQ3 => exact fun _ _ _ h => h
          case hw3 => kernel_rfl
          case hy3 => (intro w' hw'; go_simp; try with_reducible rfl)
          (try change wpAnyH _ _ _ _ _ _ _ (Act.put _ (some 13) _) _)
          try simp only [Act.put, List.setIfInBounds_toArray, List.set_cons_zero, List.set_cons_succ]
          refine' wpAnyH_take (i := 4) (oi := _) (v := ?v4) rfl ?hs4 ?hf4 ?hr4 ?hQ4 (Or.inl ⟨?hw4, ?hy4⟩) hHeld ?rest4
          case hs4 => kernel_rfl
          case hf4 => kernel_rfl
          case hr4 => kernel_rfl
          case hQ4 => exact fun _ _ _ h => h
          case hw4 => kernel_rfl
          case hy4 => (intro w' hw'; have c := HCE.out _ hw'; go_simp; try with_reducible rfl)
          (try change wpAnyH _ _ _ _ _ _ _ (Act.put _ (some 14) _) _)
          try simp only [Act.put, List.setIfInBounds_toArray, List.set_cons_zero, List.set_cons_succ]
          refine wpAnyH_ready (rs := [0]) (by kernel_rfl) (by simp) ?_
          refine AllReadyH.cons rfl (fun K hK => ?_) AllReadyH.nil
          go_simp
          go_at_call 111; refine (specNames_any _).mono ?_; rintro e wa ⟨ga, capa, rfl, hc1, hc2, hga, hown, hba⟩; have HRA := Lib.hid ((RowRd.of_strs m hown (by decide) names_short).weak); have hbe : Below w2.heap.size w2 wa := below_step hHeld hba; clear hown hba
          (try go_wp2_with fail)
          refine hK.out _ _ hbe (fun hHeld => ?_)
          clear hK K
          try simp only [Act.put, List.setIfInBounds_toArray, List.set_cons_zero, List.set_cons_succ]
          refine wpAnyH_ready (rs := [5]) (by kernel_rfl) (by simp) ?_
          refine AllReadyH.cons rfl (fun K hK => ?_) AllReadyH.nil
          go_simp
          go_at_call 62; refine (HH1.out _ _ _ HRA.out).mono ?_; rintro e wz ⟨rfl, rfl⟩
          (try go_wp2_with fail)
          refine hK.out _ _ hHeld (fun hHeld => ?_)
          clear hK K
          try simp only [Act.put, List.setIfInBounds_toArray, List.set_cons_zero, List.set_cons_succ]
          refine' wpAnyH_take (i := 6) (oi := _) (v := ?v5) rfl ?hs5 ?hf5 ?hr5 ?hQ5 (Or.inl ⟨?hw5, ?hy5⟩) hHeld ?rest5
          case hs5 => kernel_rfl
          case hf5 => kernel_rfl
          case hr5 => kernel_rfl
          case hQ5 => exact fun _ _ _ h => h
          case hw5 => kernel_rfl
          case hy5 => (intro w' hw'; go_simp; try with_reducible rfl)
          (try change wpAnyH _ _ _ _ _ _ _ (Act.put _ (some 16) _) _)
          try simp only [Act.put, List.setIfInBounds_toArray, List.set_cons_zero, List.set_cons_succ]
          refine' wpAnyH_take (i := 7) (oi := _) (v := ?v6) rfl ?hs6 ?hf6 ?hr6 ?hQ6 (Or.inl ⟨?hw6, ?hy6⟩) hHeld ?rest6
          case hs6 => kernel_rfl
          case hf6 => kernel_rfl
          case hr6 => kernel_rfl
          case hQ6 => exact fun _ _ _ h => h
          case hw6 => kernel_rfl
          case hy6 => (intro w' hw'; go_simp; try with_reducible rfl)
          (try change wpAnyH _ _ _ _ _ _ _ (Act.put _ (some 17) _) _)
          try simp only [Act.put, List.setIfInBounds_toArray, List.set_cons_zero, List.set_cons_succ]
          refine' wpAnyH_take (i := 8) (oi := _) (v := undef) rfl ?hs7 ?hf7 ?hr7 ?hQ7 (Or.inr ⟨?hw7, rfl⟩) hHeld ?rest7
          case hs7 => kernel_rfl
          case hf7 => kernel_rfl
          case hr7 => kernel_rfl
          case hQ7 => exact fun _ _ _ h => h
          case hw7 => kernel_rfl
          (try change wpAnyH _ _ _ _ _ _ _ (Act.put _ (some 18) _) _)
          try simp only [Act.put, List.setIfInBounds_toArray, List.set_cons_zero, List.set_cons_succ]
          refine' wpAnyH_take (i := 9) (oi := _) (v := undef) rfl ?hs8 ?hf8 ?hr8 ?hQ8 (Or.inr ⟨?hw8, rfl⟩) hHeld ?rest8
          case hs8 => kernel_rfl
          case hf8 => kernel_rfl
          case hr8 => kernel_rfl
          case hQ8 => exact fun _ _ _ h => h
          case hw8 => kernel_rfl
          (try change wpAnyH _ _ _ _ _ _ _ (Act.put _ (some 19) _) _)
          try simp only [Act.put, List.setIfInBounds_toArray, List.set_cons_zero, List.set_cons_succ]
          refine' wpAnyH_take (i := 10) (oi := _) (v := undef) rfl ?hs9 ?hf9 ?hr9 ?hQ9 (Or.inr ⟨?hw9, rfl⟩) hHeld ?rest9
          case hs9 => kernel_rfl
          case hf9 => kernel_rfl
          case hr9 => kernel_rfl
          case hQ9 => exact fun _ _ _ h => h
          case hw9 => kernel_rfl
          (try change wpAnyH _ _ _ _ _ _ _ (Act.put _ (some 20) _) _)
          try simp only [Act.put, List.setIfInBounds_toArray, List.set_cons_zero, List.set_cons_succ]
          refine' wpAnyH_take (i := 11) (oi := _) (v := undef) rfl ?hs10 ?hf10 ?hr10 ?hQ10 (Or.inr ⟨?hw10, rfl⟩) hHeld ?rest10
          case hs10 => kernel_rfl
          case hf10 => kernel_rfl
          case hr10 => kernel_rfl
          case hQ10 => exact fun _ _ _ h => h
          case hw10 => kernel_rfl
          (try change wpAnyH _ _ _ _ _ _ _ (Act.put _ (some 21) _) _)
          try simp only [Act.put, List.setIfInBounds_toArray, List.set_cons_zero, List.set_cons_succ]
          refine' wpAnyH_take (i := 12) (oi := _) (v := undef) rfl ?hs11 ?hf11 ?hr11 ?hQ11 (Or.inr ⟨?hw11, rfl⟩) hHeld ?rest11
          case hs11 => kernel_rfl
          case hf11 => kernel_rfl
          case hr11 => kernel_rfl
          case hQ11 => exact fun _ _ _ h => h
          case hw11 => kernel_rfl
          (try change wpAnyH _ _ _ _ _ _ _ (Act.put _ (some 22) _) _)
          try simp only [Act.put, List.setIfInBounds_toArray, List.set_cons_zero, List.set_cons_succ]
          refine' wpAnyH_take (i := 13) (oi := _) (v := undef) rfl ?hs12 ?hf12 ?hr12 ?hQ12 (Or.inr ⟨?hw12, rfl⟩) hHeld ?rest12
          case hs12 => kernel_rfl
          case hf12 => kernel_rfl
          case hr12 => kernel_rfl
          case hQ12 => exact fun _ _ _ h => h
          case hw12 => kernel_rfl
          (try change wpAnyH _ _ _ _ _ _ _ (Act.put _ (some 23) _) _)
          try simp only [Act.put, List.setIfInBounds_toArray, List.set_cons_zero, List.set_cons_succ]
          refine' wpAnyH_take (i := 14) (oi := _) (v := undef) rfl ?hs13 ?hf13 ?hr13 ?hQ13 (Or.inr ⟨?hw13, rfl⟩) hHeld ?rest13
          case hs13 => kernel_rfl
          case hf13 => kernel_rfl
          case hr13 => kernel_rfl
          case hQ13 => exact fun _ _ _ h => h
          case hw13 => kernel_rfl
          (try change wpAnyH _ _ _ _ _ _ _ (Act.put _ (some 24) _) _)
          try simp only [Act.put, List.setIfInBounds_toArray, List.set_cons_zero, List.set_cons_succ]
          refine' wpAnyH_take (i := 15) (oi := _) (v := undef) rfl ?hs14 ?hf14 ?hr14 ?hQ14 (Or.inr ⟨?hw14, rfl⟩) hHeld ?rest14
          case hs14 => kernel_rfl
          case hf14 => kernel_rfl
          case hr14 => kernel_rfl
          case hQ14 => exact fun _ _ _ h => h
          case hw14 => kernel_rfl
          (try change wpAnyH _ _ _ _ _ _ _ (Act.put _ (some 25) _) _)
          try simp only [Act.put, List.setIfInBounds_toArray, List.set_cons_zero, List.set_cons_succ]
          refine' wpAnyH_take (i := 16) (oi := _) (v := ?v15) rfl ?hs15 ?hf15 ?hr15 ?hQ15 (Or.inl ⟨?hw15, ?hy15⟩) hHeld ?rest15
          case hs15 => kernel_rfl
          case hf15 => kernel_rfl
          case hr15 => kernel_rfl
          case hQ15 => exact fun _ _ _ h => h
          case hw15 => kernel_rfl
          case hy15 => (intro w' hw'; go_simp; try with_reducible rfl)
          (try change wpAnyH _ _ _ _ _ _ _ (Act.put _ (some 26) _) _)
          try simp only [Act.put, List.setIfInBounds_toArray, List.set_cons_zero, List.set_cons_succ]
          refine wpAnyH_done ?hdone1 ?hq1 _
          case hdone1 => kernel_rfl
          go_wp2_with fail
          go_meet
          exact ⟨rfl, hHeld⟩
        · refine' wpAnyH_take (i := 1) (oi := _) (v := ?v16) rfl ?hs16 ?hf16 ?hr16 ?hQ16 (Or.inl ⟨?hw16, ?hy16⟩) hHeld ?rest16
          case hs16 => kernel_rfl
          case hf16 => kernel_rfl
          case hr16 => kernel_rfl
          case hQ16 => exact fun _ _ _ h => h
          case hw16 => kernel_rfl
          case hy16 => (intro w' hw'; go_simp; try with_reducible rfl)
          (try change wpAnyH _ _ _ _ _ _ _ (Act.put _ (some 11) _) _)
          try simp only [Act.put, List.setIfInBounds_toArray, List.set_cons_zero, List.set_cons_succ]
          refine' wpAnyH_take (i := 2) (oi := _) (v := ?v17) rfl ?hs17 ?hf17 ?hr17 ?hQ17 (Or.inl ⟨?hw17, ?hy17⟩) hHeld ?rest17
          case hs17 => kernel_rfl
          case hf17 => kernel_rfl
          case hr17 => kernel_rfl
          case hQ17 => exact fun _ _ _ h => h
          case hw17 => kernel_rfl
          case hy17 => (intro w' hw'; go_simp; try with_reducible rfl)
          (try change wpAnyH _ _ _ _ _ _ _ (Act.put _ (some 12) _) _)
          try simp only [Act.put, List.setIfInBounds_toArray, List.set_cons_zero, List.set_cons_succ]
          refine' wpAnyH_take (i := 3) (oi := _) (v := ?v18) rfl ?hs18 ?hf18 ?hr18 ?hQ18 (Or.inl ⟨?hw18, ?hy18⟩) hHeld ?rest18
          case hs18 => kernel_rfl
          case hf18 => kernel_rfl
          case hr18 => kernel_rfl
          case hQ18 => exact fun _ _ _ h => h
          case hw18 => kernel_rfl
          case hy18 => (intro w' hw'; go_simp; try with_reducible rfl)
          (try change wpAnyH _ _ _ _ _ _ _ (Act.put _ (some 13) _) _)
          try simp only [Act.put, List.setIfInBounds_toArray, List.set_cons_zero, List.set_cons_succ]
          refine' wpAnyH_take (i := 4) (oi := _) (v := ?v19) rfl ?hs19 ?hf19 ?hr19 ?hQ19 (Or.inl ⟨?hw19, ?hy19⟩) hHeld ?rest19
          case hs19 => kernel_rfl
          case hf19 => kernel_rfl
          case hr19 => kernel_rfl
          case hQ19 => exact fun _ _ _ h => h
          case hw19 => kernel_rfl
          case hy19 => (intro w' hw'; have c := HCE.out _ hw'; go_simp; try with_reducible rfl)
          (try change wpAnyH _ _ _ _ _ _ _ (Act.put _ (some 14) _) _)
          try simp only [Act.put, List.setIfInBounds_toArray, List.set_cons_zero, List.set_cons_succ]
          refine wpAnyH_ready (rs := [0]) (by kernel_rfl) (by simp) ?_
          refine AllReadyH.cons rfl (fun K hK => ?_) AllReadyH.nil
          go_simp
          go_at_call 111; refine (specNames_any _).mono ?_; rintro e wa ⟨ga, capa, rfl, hc1, hc2, hga, hown, hba⟩; have HRA := Lib.hid ((RowRd.of_strs m hown (by decide) names_short).weak); have hbe : Below w2.heap.size w2 wa := below_step hHeld hba; clear hown hba
          (try go_wp2_with fail)
          refine hK.out _ _ hbe (fun hHeld => ?_)
          clear hK K
          try simp only [Act.put, List.setIfInBounds_toArray, List.set_cons_zero, List.set_cons_succ]
          refine wpAnyH_ready (rs := [5]) (by kernel_rfl) (by simp) ?_
          refine AllReadyH.cons rfl (fun K hK => ?_) AllReadyH.nil
          go_simp
          go_at_call 62; refine (HH1.out _ _ _ HRA.out).mono ?_; rintro e wz ⟨rfl, rfl⟩
          (try go_wp2_with fail)
          refine hK.out _ _ hHeld (fun hHeld => ?_)
          clear hK K
          try simp only [Act.put, List.setIfInBounds_toArray, List.set_cons_zero, List.set_cons_succ]
          refine' wpAnyH_take (i := 6) (oi := _) (v := ?v20) rfl ?hs20 ?hf20 ?hr20 ?hQ20 (Or.inl ⟨?hw20, ?hy20⟩) hHeld ?rest20
          case hs20 => kernel_rfl
          case hf20 => kernel_rfl
          case hr20 => kernel_rfl
          case hQ20 => exact fun _ _ _ h => h
          case hw20 => kernel_rfl
          case hy20 => (intro w' hw'; go_simp; try with_reducible rfl)
          (try change wpAnyH _ _ _ _ _ _ _ (Act.put _ (some 16) _) _)
          try simp only [Act.put, List.setIfInBounds_toArray, List.set_cons_zero, List.set_cons_succ]
          refine' wpAnyH_take (i := 7) (oi := _) (v := ?v21) rfl ?hs21 ?hf21 ?hr21 ?hQ21 (Or.inl ⟨?hw21, ?hy21⟩) hHeld ?rest21
          case hs21 => kernel_rfl
          case hf21 => kernel_rfl
          case hr21 => kernel_rfl
          case hQ21 => exact fun _ _ _ h => h
          case hw21 => kernel_rfl
          case hy21 => (intro w' hw'; go_simp; try with_reducible rfl)
          (try change wpAnyH _ _ _ _ _ _ _ (Act.put _ (some 17) _) _)
          try simp only [Act.put, List.setIfInBounds_toArray, List.set_cons_zero, List.set_cons_succ]
          refine' wpAnyH_take (i := 8) (oi := _) (v := ?v22) rfl ?hs22 ?hf22 ?hr22 ?hQ22 (Or.inl ⟨?hw22, ?hy22⟩) hHeld ?rest22
          case hs22 => kernel_rfl
          case hf22 => kernel_rfl
          case hr22 => kernel_rfl
          case hQ22 => exact fun _ _ _ h => h
          case hw22 => kernel_rfl
          case hy22 => (intro w' hw'; go_simp; try with_reducible rfl)
          (try change wpAnyH _ _ _ _ _ _ _ (Act.put _ (some 18) _) _)
          try simp only [Act.put, List.setIfInBounds_toArray, List.set_cons_zero, List.set_cons_succ]
          refine' wpAnyH_take (i := 9) (oi := _) (v := ?v23) rfl ?hs23 ?hf23 ?hr23 ?hQ23 (Or.inl ⟨?hw23, ?hy23⟩) hHeld ?rest23
          case hs23 => kernel_rfl
          case hf23 => kernel_rfl
          case hr23 => kernel_rfl
          case hQ23 => exact fun _ _ _ h => h
          case hw23 => kernel_rfl
          case hy23 => (intro w' hw'; go_simp; try with_reducible rfl)
          (try change wpAnyH _ _ _ _ _ _ _ (Act.put _ (some 19) _) _)
          try simp only [Act.put, List.setIfInBounds_toArray, List.set_cons_zero, List.set_cons_succ]
          refine' wpAnyH_take (i := 10) (oi := _) (v := ?v24) rfl ?hs24 ?hf24 ?hr24 ?hQ24 (Or.inl ⟨?hw24, ?hy24⟩) hHeld ?rest24
          case hs24 => kernel_rfl
          case hf24 => kernel_rfl
          case hr24 => kernel_rfl
          case hQ24 => exact fun _ _ _ h => h
          case hw24 => kernel_rfl
          case hy24 => (intro w' hw'; go_simp; try with_reducible rfl)
          (try change wpAnyH _ _ _ _ _ _ _ (Act.put _ (some 20) _) _)
          try simp only [Act.put, List.setIfInBounds_toArray, List.set_cons_zero, List.set_cons_succ]
          refine' wpAnyH_take (i := 11) (oi := _) (v := ?v25) rfl ?hs25 ?hf25 ?hr25 ?hQ25 (Or.inl ⟨?hw25, ?hy25⟩) hHeld ?rest25
          case hs25 => kernel_rfl
          case hf25 => kernel_rfl
          case hr25 => kernel_rfl
          case hQ25 => exact fun _ _ _ h => h
          case hw25 => kernel_rfl
          case hy25 => (intro w' hw'; go_simp; try with_reducible rfl)
          (try change wpAnyH _ _ _ _ _ _ _ (Act.put _ (some 21) _) _)
          try simp only [Act.put, List.setIfInBounds_toArray, List.set_cons_zero, List.set_cons_succ]
          refine' wpAnyH_take (i := 12) (oi := _) (v := ?v26) rfl ?hs26 ?hf26 ?hr26 ?hQ26 (Or.inl ⟨?hw26, ?hy26⟩) hHeld ?rest26
          case hs26 => kernel_rfl
          case hf26 => kernel_rfl
          case hr26 => kernel_rfl
          case hQ26 => exact fun _ _ _ h => h
          case hw26 => kernel_rfl
          case hy26 => (intro w' hw'; go_simp; try with_reducible rfl)
          (try change wpAnyH _ _ _ _ _ _ _ (Act.put _ (some 22) _) _)
          try simp only [Act.put, List.setIfInBounds_toArray, List.set_cons_zero, List.set_cons_succ]
          refine' wpAnyH_take (i := 13) (oi := _) (v := ?v27) rfl ?hs27 ?hf27 ?hr27 ?hQ27 (Or.inl ⟨?hw27, ?hy27⟩) hHeld ?rest27
          case hs27 => kernel_rfl
          case hf27 => kernel_rfl
          case hr27 => kernel_rfl
          case hQ27 => exact fun _ _ _ h => h
          case hw27 => kernel_rfl
          case hy27 => (intro w' hw'; go_simp; try with_reducible rfl)
          (try change wpAnyH _ _ _ _ _ _ _ (Act.put _ (some 23) _) _)
          try simp only [Act.put, List.setIfInBounds_toArray, List.set_cons_zero, List.set_cons_succ]
          refine' wpAnyH_take (i := 14) (oi := _) (v := ?v28) rfl ?hs28 ?hf28 ?hr28 ?hQ28 (Or.inl ⟨?hw28, ?hy28⟩) hHeld ?rest28
          case hs28 => kernel_rfl
          case hf28 => kernel_rfl
          case hr28 => kernel_rfl
          case hQ28 => exact fun _ _ _ h => h
          case hw28 => kernel_rfl
          case hy28 => (intro w' hw'; have c := HCE.out _ hw'; go_simp; try with_reducible rfl)
          (try change wpAnyH _ _ _ _ _ _ _ (Act.put _ (some 24) _) _)
          try simp only [Act.put, List.setIfInBounds_toArray, List.set_cons_zero, List.set_cons_succ]
          refine wpAnyH_ready (rs := [15]) (by kernel_rfl) (by simp) ?_
          refine AllReadyH.cons rfl (fun K hK => ?_) AllReadyH.nil
          go_simp
          go_at_call 62; refine (HH2.out _ hHeld).mono ?_; rintro e wz ⟨rfl, rfl⟩
          (try go_wp2_with fail)
          refine hK.out _ _ hHeld (fun hHeld => ?_)
          clear hK K
          try simp only [Act.put, List.setIfInBounds_toArray, List.set_cons_zero, List.set_cons_succ]
          refine' wpAnyH_take (i := 16) (oi := _) (v := ?v29) rfl ?hs29 ?hf29 ?hr29 ?hQ29 (Or.inl ⟨?hw29, ?hy29⟩) hHeld ?rest29
          case hs29 => kernel_rfl
          case hf29 => kernel_rfl
          case hr29 => kernel_rfl
          case hQ29 => exact fun _ _ _ h => h
          case hw29 => kernel_rfl
          case hy29 => (intro w' hw'; go_simp; try with_reducible rfl)
          (try change wpAnyH _ _ _ _ _ _ _ (Act.put _ (some 26) _) _)
          try simp only [Act.put, List.setIfInBounds_toArray, List.set_cons_zero, List.set_cons_succ]
          refine wpAnyH_done ?hdone2 ?hq2 _
          case hdone2 => kernel_rfl
          go_wp2_with fail
          go_meet
          exact ⟨rfl, hHeld⟩
      case rest =>
        obtain ⟨rfl, hbw⟩ := hcut
        have HBW := Lib.hid (HB.out.trans (hbw.mono HB.out.size))
        clear hbw HCE HH1 HH2 HVK
        by_cases ht : bn = true ∧ bt = false
        · obtain ⟨rfl, rfl⟩ := ht
          have HNX := Lib.hid (HG2.out rfl rfl)
          clear HG2 HN2
          go_wp2
          exact ⟨⟨k + 1, by omega, by go_num, HNX.out, HBW.out⟩, by simp [intOf]; omega⟩
        · have HF := Lib.hid (HN2.out (by cases bn <;> cases bt <;> simp_all))
          have hbb : (!bn || bt) = true := by cases bn <;> cases bt <;> simp_all
          clear HG2 HN2 ht
          rw [hbb]
          go_wp2
          go_ret
          exact ⟨by rw [HF.out]; rfl, HBW.out⟩
    · obtain rfl : k = l.length := by omega
      have HN : Hid (areC l = _) := areC_good fun j y hj => hall.out j y (List.getElem?_eq_some_iff.1 hj).1 hj
      clear hall
      go_wp2_with fail
      refine (specIn10_any _ _ _ _).mono ?_
      rintro e w3 ⟨rfl, rfl⟩
      go_wp2
      go_ret
      exact ⟨by first | exact ret_bool HN.out | exact ret_bool HN.out.symm, HB.out⟩
end Go.Proofs.YtkaihnlknncfdaaGreatDoor

/- Rankings: the model's l12Has and IsRanking: what they answer. -/
namespace Go.Proofs.YtkaihnlknncfdaaGreatDoor
set_option maxRecDepth 100000
open Go.RowKit Go.Sort M
set_option linter.unusedVariables false
set_option linter.unusedSimpArgs false

set_option maxHeartbeats 1000000 in
theorem has12_any (l : List Int) (v : Value) (F : Addr → Prop) (x : Int) (w : World) (hv : RowRd Rep.int false w v l F) :
    Calls Tryz.prog 102 #[v, .int .i64 x] w fun e w' => e = .returned (.bool (decide (x ∈ l))) ∧ w = w' := by
  obtain ⟨A, cap, rfl⟩ := hv.form
  have hmx := hv.max
  have HV := Lib.hid hv
  clear hv
  have HX : Hid (∀ k, k < l.length → ∃ y, l[k]? = some y) := fun k hk => ⟨_, List.getElem?_eq_getElem hk⟩
  have HNO : Hid ((∀ (j : Nat) (y : Int), j < l.length → l[j]? = some y → ¬ y = x) → decide (x ∈ l) = false) := fun h => decide_eq_false fun hm => by
    obtain ⟨j, hj⟩ := List.mem_iff_getElem?.1 hm
    exact h j x (List.getElem?_eq_some_iff.1 hj).1 hj rfl
  have HYES : Hid (∀ (k : Nat), l[k]? = some x → decide (x ∈ l) = true) := fun k h => decide_eq_true (List.mem_of_getElem? h)
  generalize decide (x ∈ l) = r at *
  generalize hll : l.length = L at *
  clear hll
  go_enter Tryz.func102, Tryz.ntmps102
  go_wp2
  go_loop [5] (fun i => ∃ (k : Nat), k ≤ L ∧ i = .int .i64 k ∧ Hid (∀ (j : Nat) (y : Int), j < k → l[j]? = some y → ¬ y = x)) (fun i => L - (intOf i).toNat)
  case atStart => exact ⟨0, by omega, rfl, fun j y hj => by omega⟩
  case round =>
    obtain ⟨k, hk, rfl, hall⟩ := hrel
    by_cases hkl : k < L
    · obtain ⟨y, hy⟩ := HX.out k hkl
      obtain ⟨g, off, xs, Fk, rfl, _, hra, _, hca⟩ := HV.out.get hy
      obtain ⟨rfl, _⟩ := id hra
      rw [show Rep.int.size = 1 from rfl] at hca
      have c0 := hca 0 _ rfl
      simp only [Nat.add_zero, Nat.mul_one] at c0
      clear hca hra
      have HY := Lib.hid hy
      clear hy
      by_cases he : y = x
      · subst he
        have HF := Lib.hid (HYES.out k HY.out)
        clear HYES HNO
        go_wp2
        go_ret
        exact ⟨ret_bool HF.out.symm, rfl⟩
      · have e1 : (y == x) = false := by simp [he]
        have HG : Hid (∀ (j : Nat) (z : Int), j < k + 1 → l[j]? = some z → ¬ z = x) := fun j z hj hz => by
          by_cases e : j = k
          · subst e; rw [HY.out] at hz; cases hz; exact he
          · exact hall.out j z (by omega) hz
        clear HYES HNO hall
        go_wp2
        go_round
        case rel => exact ⟨k + 1, by omega, by go_num, HG.out⟩
        case measure => simp [intOf]; omega
    · obtain rfl : k = L := by omega
      have HF := Lib.hid (HNO.out hall.out)
      clear hall
      go_wp2
      go_ret
      exact ⟨ret_bool HF.out.symm, rfl⟩
set_option maxHeartbeats 8000000 in
theorem specRk_any (l : List Int) (n : Int) (v : Value) (F : Addr → Prop) (w : World) (hn : I64 n) (hv : RowRd Rep.int false w v l F) :
    Calls Tryz.prog 50 #[v, .int .i64 n] w fun e w' => e = .returned (.bool (rkB l n)) ∧ Below w.heap.size w w' := by
  obtain ⟨A, cap, rfl⟩ := hv.form
  have hmx := hv.max
  have hcap := hv.cap_le
  have HV := Lib.hid hv
  clear hv
  have HX : Hid (∀ k, k < l.length → ∃ y, l[k]? = some y ∧ I64 y) := fun k hk => ⟨_, List.getElem?_eq_getElem hk, by
    obtain ⟨g, off, xs, Fk, _, _, hr, _⟩ := HV.out.get (List.getElem?_eq_getElem hk)
    exact hr.2⟩
  have HBAD : Hid (∀ (k : Nat) (x : Int), l[k]? = some x → (x < 0 ∨ n ≤ x ∨ x ∈ l.take k) → rkB l n = false) := fun k x h1 h2 => rk_bad h1 h2
  have HEND : Hid (goodTo l n l.length → rkB l n = (decide (1 ≤ n) && (decide (n ≤ 5) && decide ((l.length : Int) = n)))) := fun h => rk_of_good h
  have HTK : Hid (∀ k, k ≤ l.length → (l.take k).length = k) := fun k hk => by rw [List.length_take]; omega
  generalize rkB l n = r at *
  generalize hll : l.length = L at *
  unfold I64 at hn
  go_enter Tryz.func50, Tryz.ntmps50
  go_wp2
  go_loopw [5] (fun i wr => ∃ (k : Nat), k ≤ L ∧ i = .int .i64 k ∧ Hid (goodTo l n k) ∧ Below w.heap.size w wr) (fun i _ => L - (intOf i).toNat)
  case atStart => exact ⟨0, by omega, rfl, fun j x hj => by omega, Below.refl _ _⟩
  case round =>
    obtain ⟨k, hk, rfl, hgo, hbe⟩ := hrel
    obtain ⟨w2, rfl⟩ : ∃ w2 : World, w2 = wr := ⟨_, rfl⟩
    have HBE := Lib.hid hbe
    clear hbe
    by_cases hkl : k < L
    · obtain ⟨x, hx, hxi⟩ := HX.out k hkl
      have HVK := Lib.hid (HV.out.kept HBE.out)
      obtain ⟨g, off, xs, Fk, rfl, _, hra, _, hca⟩ := HVK.out.get hx
      obtain ⟨rfl, _⟩ := id hra
      rw [show Rep.int.size = 1 from rfl] at hca
      have c0 := hca 0 _ rfl
      simp only [Nat.add_zero, Nat.mul_one] at c0
      have hr0 := fun d os => cell_regrown c0 d os
      have hkc : (k : Int) ≤ (cap : Int) := by omega
      have hkr : (k : Int) < (L : Int) := by omega
      have HXX := Lib.hid hx
      unfold I64 at hxi
      clear hca hra hx
      have HH : Hid (∀ d os, Calls Tryz.prog 102 #[.slice (some ⟨g, off, none⟩) k cap, .int .i64 x] (grow (redrawn w2 d) os) fun e w'' => e = .returned (.bool (decide (x ∈ l.take k))) ∧ ∃ p : Regrown, w'' = grow (redrawn w2 p.d) p.os) := fun d os =>
        (has12_any (l.take k) (.slice (some ⟨g, off, none⟩) k cap) F x _ ((by have h := (HVK.out.kept (below_regrown w2 d os)).head k cap (by omega) (by omega); exact h))).mono fun e w'' h => ⟨h.1, ⟨d, os⟩, h.2.symm⟩
      have HB := Lib.hid (HBAD.out k x HXX.out)
      by_cases h0 : x < 0
      · have e1 : decide (x < 0) = true := decide_eq_true h0
        have HF := Lib.hid (HB.out (.inl h0))
        clear HH HB HBAD HEND h0
        go_wp2
        refine wp_region_quiet_below (by kernel_rfl) (by kernel_rfl) ?_
        repeat (first | go_big_quiet_skip | quiet_step (fail))
        refine wpQuiet_nil ?_
        intro _ hw'
        obtain ⟨⟨dq, osq⟩, hw''⟩ := hw'
        subst hw''
        have HB5 := Lib.hid (HBE.out.trans ((below_regrown w2 dq osq).mono HBE.out.size))
        go_wp2
        go_ret
        exact ⟨ret_bool HF.out.symm, HB5.out⟩
      have e1 : decide (x < 0) = false := decide_eq_false h0
      by_cases h1 : n ≤ x
      · have e2 : decide (n ≤ x) = true := decide_eq_true h1
        have HF := Lib.hid (HB.out (.inr (.inl h1)))
        clear HH HB HBAD HEND h0 h1
        go_wp2
        refine wp_region_quiet_below (by kernel_rfl) (by kernel_rfl) ?_
        repeat (first | go_big_quiet_skip | quiet_step (fail))
        refine wpQuiet_nil ?_
        intro _ hw'
        obtain ⟨⟨dq, osq⟩, hw''⟩ := hw'
        subst hw''
        have HB5 := Lib.hid (HBE.out.trans ((below_regrown w2 dq osq).mono HBE.out.size))
        go_wp2
        go_ret
        exact ⟨ret_bool HF.out.symm, HB5.out⟩
      have e2 : decide (n ≤ x) = false := decide_eq_false h1
      have HG : Hid (¬ x ∈ l.take k → goodTo l n (k + 1)) := fun hm j y hj hy => by
        by_cases e : j = k
        · subst e; rw [HXX.out] at hy; cases hy; exact ⟨by omega, by omega, hm⟩
        · exact hgo.out j y (by omega) hy
      by_cases h2 : x ∈ l.take k
      · have HF := Lib.hid (HB.out (.inr (.inr h2)))
        have HH2 := HH.out
        rw [decide_eq_true h2] at HH2
        clear HH HB HBAD HEND h0 h1 h2 HG
        go_wp2
        refine wp_region_quiet_below (by kernel_rfl) (by kernel_rfl) ?_
        repeat (first | go_big_quiet_skip | quiet_step (with_reducible exact HH2 _ _))
        refine wpQuiet_nil ?_
        intro _ hw'
        obtain ⟨⟨dq, osq⟩, hw''⟩ := hw'
        subst hw''
        have HB5 := Lib.hid (HBE.out.trans ((below_regrown w2 dq osq).mono HBE.out.size))
        go_wp2
        go_ret
        exact ⟨ret_bool HF.out.symm, HB5.out⟩
      · have HH2 := HH.out
        rw [decide_eq_false h2] at HH2
        have HG2 := Lib.hid (HG.out h2)
        clear HH HB HBAD HEND h0 h1 h2 HG
        go_wp2
        refine wp_region_quiet_below (by kernel_rfl) (by kernel_rfl) ?_
        repeat (first | go_big_quiet_skip | quiet_step (with_reducible exact HH2 _ _))
        refine wpQuiet_nil ?_
        intro _ hw'
        obtain ⟨⟨dq, osq⟩, hw''⟩ := hw'
        subst hw''
        have HB5 := Lib.hid (HBE.out.trans ((below_regrown w2 dq osq).mono HBE.out.size))
        go_wp2
        go_roundw
        case rel => exact ⟨k + 1, by omega, by go_num, HG2.out, HB5.out⟩
        case measure => simp [intOf]; omega
    · obtain rfl : k = L := by omega
      have HE : Hid (r = ((decide (1 ≤ n) && decide (n ≤ 5)) && decide ((k : Int) = n))) := by unfold Hid; rw [HEND.out hgo.out, Bool.and_assoc]
      have HI := Lib.hid (fun W => specIn10_any n 1 5 W)
      generalize (decide (1 ≤ n) && decide (n ≤ 5)) = b at *
      clear HBAD HEND hgo
      go_wp2_with fail
      refine (HI.out _).mono ?_
      rintro e w3 ⟨rfl, rfl⟩
      by_cases hL : (k : Int) = n
      · have e3 : decide ((k : Int) = n) = true := decide_eq_true hL
        have e4 : ((k : Int) == n) = true := by simp [hL]
        rw [e3, Bool.and_true] at HE
        clear hL
        cases b <;> (go_wp2; go_ret; exact ⟨ret_bool HE.out.symm, HBE.out⟩)
      · have e3 : decide ((k : Int) = n) = false := decide_eq_false hL
        have e4 : ((k : Int) == n) = false := by simp [hL]
        rw [e3, Bool.and_false] at HE
        clear hL
        cases b <;> (go_wp2; go_ret; exact ⟨ret_bool HE.out.symm, HBE.out⟩)
end Go.Proofs.YtkaihnlknncfdaaGreatDoor

/- Rankings: the model's CompareMarks: what it answers. -/
namespace Go.Proofs.YtkaihnlknncfdaaGreatDoor
set_option maxRecDepth 100000
open Go.RowKit Go.Sort
set_option linter.unusedVariables false
set_option linter.unusedSimpArgs false

theorem diffAt_of {a b : List Int} {j : Nat} {x y : Int} (ha : a[j]? = some x) (hb : b[j]? = some y) : diffAt a b (j : Int) = if x < y then -1 else if y < x then 1 else 0 := by
  unfold diffAt
  rw [Int.toNat_natCast, List.getD_eq_getElem?_getD, List.getD_eq_getElem?_getD, ha, hb]
  rfl
theorem drop_at {l : List Int} {i : Nat} {k : Int} (h : l[i]? = some k) : l.drop i = k :: l.drop (i + 1) := by
  obtain ⟨hi, he⟩ := List.getElem?_eq_some_iff.1 h
  rw [List.drop_eq_getElem_cons hi, he]
theorem cmpL_at {a b r : List Int} {i j : Nat} (h : r[i]? = some (j : Int)) {x y : Int} (ha : a[j]? = some x) (hb : b[j]? = some y) : cmpL a b (r.drop i) = if x < y then -1 else if y < x then 1 else cmpL a b (r.drop (i + 1)) := by
  rw [drop_at h, cmpL_cons, diffAt_of ha hb]
  by_cases h1 : x < y
  · rw [if_pos h1, if_pos h1]; rfl
  · rw [if_neg h1, if_neg h1]
    by_cases h2 : y < x
    · rw [if_pos h2, if_pos h2]; rfl
    · rw [if_neg h2, if_neg h2]; rfl
/-- The places of a ranking lie within both lists. -/
theorem rank_place {a r : List Int} (h : ∀ (i : Nat) (k : Int), r[i]? = some k → 0 ≤ k ∧ k < (a.length : Int)) {i : Nat} (hi : i < r.length) : ∃ j x, r[i]? = some ((j : Nat) : Int) ∧ j < a.length ∧ a[j]? = some x := by
  have hk := List.getElem?_eq_getElem hi
  obtain ⟨h1, h2⟩ := h i _ hk
  refine ⟨(r[i]).toNat, _, by rw [hk, Int.toNat_of_nonneg h1], by omega, List.getElem?_eq_getElem (by omega)⟩
set_option maxHeartbeats 16000000 in
theorem specCm_any (a b r : List Int) (va vb vr : Value) (Fa Fb Fr : Addr → Prop) (w : World) (hva : RowRd Rep.int false w va a Fa) (hvb : RowRd Rep.int false w vb b Fb) (hvr : RowRd Rep.int false w vr r Fr) :
    Calls Tryz.prog 51 #[va, vb, vr] w fun e w' => e = .returned (.int .i64 (cmpV a b r)) ∧ Below w.heap.size w w' := by
  have hma := hva.max
  have hmb := hvb.max
  have hmr := hvr.max
  obtain ⟨A1, k1, rfl⟩ := hva.form
  obtain ⟨A2, k2, rfl⟩ := hvb.form
  obtain ⟨A3, k3, rfl⟩ := hvr.form
  have HA := Lib.hid hva
  have HB := Lib.hid hvb
  have HR := Lib.hid hvr
  have HRK := Lib.hid (specRk_any r (a.length : Int) _ Fr w (by unfold I64; omega) hvr)
  clear hva hvb hvr
  have HV : Hid (cmpV a b r = if rkB r a.length && decide (a.length = b.length) then cmpL a b r else 0) := rfl
  have HKA : Hid (rkB r a.length = true → ∀ (i : Nat) (k : Int), r[i]? = some k → 0 ≤ k ∧ k < (a.length : Int)) := fun h i k hk => rk_at h hk
  generalize cmpV a b r = z at *
  generalize hrb : rkB r (a.length : Int) = rb at *
  clear hrb
  go_enter Tryz.func51, Tryz.ntmps51
  go_wp2_with fail
  refine HRK.out.mono ?_
  rintro e w1 ⟨rfl, hb1⟩
  have HB1 := Lib.hid hb1
  clear hb1 HRK
  cases rb
  case false =>
    have HZ : Hid (z = 0) := HV.out
    go_wp2
    go_ret
    exact ⟨by rw [HZ.out]; rfl, HB1.out⟩
  by_cases hl : a.length = b.length
  case neg =>
    have HZ : Hid (z = 0) := by unfold Hid; rw [HV.out, decide_eq_false hl]; rfl
    have hl2 : ((a.length : Int) != (b.length : Int)) = true := by simp; omega
    clear HV hl
    go_wp2
    go_ret
    exact ⟨by rw [HZ.out]; rfl, HB1.out⟩
  have HZ : Hid (z = cmpL a b r) := by unfold Hid; rw [HV.out, decide_eq_true hl]; rfl
  have hl2 : ((a.length : Int) != (b.length : Int)) = false := by simp; omega
  have HPL : Hid (∀ i, i < r.length → ∃ j x y, r[i]? = some ((j : Nat) : Int) ∧ j < a.length ∧ j < b.length ∧ a[j]? = some x ∧ b[j]? = some y) := fun i hi => by
    obtain ⟨j, x, h1, h2, h3⟩ := rank_place (HKA.out rfl) hi
    exact ⟨j, x, _, h1, h2, by omega, h3, List.getElem?_eq_getElem (by omega)⟩
  have HST : Hid (∀ (i j : Nat) (x y : Int), r[i]? = some (j : Int) → a[j]? = some x → b[j]? = some y → cmpL a b (r.drop i) = if x < y then -1 else if y < x then 1 else cmpL a b (r.drop (i + 1))) := fun i j x y h1 h2 h3 => cmpL_at h1 h2 h3
  have H0 : Hid (cmpL a b (r.drop 0) = z) := HZ.out.symm
  have HE : Hid (cmpL a b (r.drop r.length) = 0) := by unfold Hid; rw [List.drop_length]; rfl
  clear HV HKA hl
  generalize hln : r.length = n at *
  generalize hla : a.length = na at *
  generalize hlb : b.length = nb at *
  go_wp2
  go_loopw [7] (fun i wr => ∃ (k : Nat), k ≤ n ∧ i = .int .i64 k ∧ Hid (cmpL a b (r.drop k) = z) ∧ Below w.heap.size w wr) (fun i _ => n - (intOf i).toNat)
  case atStart => exact ⟨0, by omega, rfl, H0.out, HB1.out⟩
  case round =>
    obtain ⟨k, hk, rfl, hcm, hbe⟩ := hrel
    obtain ⟨w2, rfl⟩ : ∃ w2 : World, w2 = wr := ⟨_, rfl⟩
    have HBE := Lib.hid hbe
    clear hbe
    by_cases hkl : k < n
    · obtain ⟨j, x, y, hj, hja, hjb, hx, hy⟩ := HPL.out k hkl
      have HS : Hid (z = if x < y then -1 else if y < x then 1 else cmpL a b (r.drop (k + 1))) := hcm.out.symm.trans (HST.out k j x y hj hx hy)
      have hkr : (k : Int) < (n : Int) := by omega
      have hj1 : (j : Int) < (na : Int) := by omega
      have hj2 : (j : Int) < (nb : Int) := by omega
      obtain ⟨g1, o1, xs1, F1, rfl, _, ha1, _, hc1⟩ := (HA.out.kept HBE.out).get hx
      obtain ⟨g2, o2, xs2, F2, rfl, _, ha2, _, hc2⟩ := (HB.out.kept HBE.out).get hy
      obtain ⟨g3, o3, xs3, F3, rfl, _, ha3, _, hc3⟩ := (HR.out.kept HBE.out).get hj
      obtain ⟨rfl, hxi⟩ := id ha1
      obtain ⟨rfl, hyi⟩ := id ha2
      obtain ⟨rfl, hji⟩ := id ha3
      have c1 := hc1 0 _ rfl
      have c2 := hc2 0 _ rfl
      have c3 := hc3 0 _ rfl
      simp only [show Rep.int.size = 1 from rfl, Nat.mul_one, Nat.add_zero] at c1 c2 c3
      have hr1 := fun d os => cell_regrown c1 d os
      have hr2 := fun d os => cell_regrown c2 d os
      have hr3 := fun d os => cell_regrown c3 d os
      clear hc1 hc2 hc3 ha1 ha2 ha3 hx hy hj
      by_cases h1 : x < y
      · have HF : Hid (z = -1) := by unfold Hid; rw [HS.out, if_pos h1]
        have e1 : decide (x < y) = true := decide_eq_true h1
        clear HS HST HPL hcm h1
        go_wp2
        refine wp_region_quiet_below (by kernel_rfl) (by kernel_rfl) ?_
        repeat (first | go_big_quiet_skip | quiet_step (fail))
        refine wpQuiet_nil ?_
        intro _ hw'
        obtain ⟨⟨dq, osq⟩, hw''⟩ := hw'
        subst hw''
        have HB5 := Lib.hid (HBE.out.trans ((below_regrown w2 dq osq).mono HBE.out.size))
        go_wp2
        go_ret
        exact ⟨by rw [HF.out]; rfl, HB5.out⟩
      have e1 : decide (x < y) = false := decide_eq_false h1
      go_wp2
      refine wp_region_quiet_below (by kernel_rfl) (by kernel_rfl) ?_
      repeat (first | go_big_quiet_skip | quiet_step (fail))
      refine wpQuiet_nil ?_
      intro _ hw'
      obtain ⟨⟨dq, osq⟩, hw''⟩ := hw'
      subst hw''
      have HB5 := Lib.hid (HBE.out.trans ((below_regrown w2 dq osq).mono HBE.out.size))
      replace c1 := hr1 dq osq
      replace c2 := hr2 dq osq
      replace c3 := hr3 dq osq
      clear hr1 hr2 hr3
      generalize grow (redrawn w2 dq) osq = w3 at *
      have hr1 := fun d os => cell_regrown c1 d os
      have hr2 := fun d os => cell_regrown c2 d os
      have hr3 := fun d os => cell_regrown c3 d os
      by_cases h2 : y < x
      · have HF : Hid (z = 1) := by unfold Hid; rw [HS.out, if_neg (by omega), if_pos h2]
        have e2 : decide (y < x) = true := decide_eq_true h2
        clear HS HST HPL hcm h1 h2
        go_wp2
        refine wp_region_quiet_below (by kernel_rfl) (by kernel_rfl) ?_
        repeat (first | go_big_quiet_skip | quiet_step (fail))
        refine wpQuiet_nil ?_
        intro _ hw'
        obtain ⟨⟨dq, osq⟩, hw''⟩ := hw'
        subst hw''
        have HB6 := Lib.hid (HB5.out.trans ((below_regrown w3 dq osq).mono HB5.out.size))
        go_wp2
        go_ret
        exact ⟨by rw [HF.out]; rfl, HB6.out⟩
      have e2 : decide (y < x) = false := decide_eq_false h2
      have HF : Hid (cmpL a b (r.drop (k + 1)) = z) := by unfold Hid; rw [HS.out, if_neg (by omega), if_neg (by omega)]
      clear HS HST HPL hcm h1 h2
      go_wp2
      refine wp_region_quiet_below (by kernel_rfl) (by kernel_rfl) ?_
      repeat (first | go_big_quiet_skip | quiet_step (fail))
      refine wpQuiet_nil ?_
      intro _ hw'
      obtain ⟨⟨dq, osq⟩, hw''⟩ := hw'
      subst hw''
      have HB6 := Lib.hid (HB5.out.trans ((below_regrown w3 dq osq).mono HB5.out.size))
      go_wp2
      go_roundw
      case rel => exact ⟨k + 1, by omega, by go_num, HF.out, HB6.out⟩
      case measure => simp [intOf]; omega
    · obtain rfl : k = n := by omega
      have HF : Hid (z = 0) := hcm.out.symm.trans HE.out
      clear hcm
      go_wp2
      go_ret
      exact ⟨by rw [HF.out]; rfl, HBE.out⟩
end Go.Proofs.YtkaihnlknncfdaaGreatDoor
