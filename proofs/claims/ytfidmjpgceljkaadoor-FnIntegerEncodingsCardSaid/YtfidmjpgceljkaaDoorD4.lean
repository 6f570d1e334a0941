/- The model's drawing of inputs: a text, a new cursor, the inputs of three functions. Of what there was before nothing turns. -/
import Derived.Test.YtfidmjpgceljkaaDoorD3
namespace Go.Proofs.YtfidmjpgceljkaaDoor
open Go.RowKit M

theorem own_cur {w w' : World} {base n g : Nat} {v : Value} {xs : List Value} {A : Option Addr} {len cap : Nat} (h : w.ownsRow base 5 1 v n xs) (hc : CurOk w g A len cap) (hg : w.grownBy w' (some g)) : w'.ownsRow base 5 1 v n xs := by
  refine ⟨h.1, ?_⟩
  rcases h.2 with h2 | ⟨k, c, cur, hv, hk, hh, r⟩
  · exact .inl h2
  · have hlt : k < w.heap.size := lt_of_block hh
    have hne : some k ≠ some g := by
      intro e
      obtain rfl : k = g := by simpa using e
      obtain ⟨_, ⟨i, q, hcur⟩, _⟩ := hc
      rw [show w.heap[k]? = _ from hcur] at hh
      simp at hh
    exact .inr ⟨k, c, cur, hv, hk, (hg.block k hlt hne).trans hh, r⟩
theorem CurOk.far {w w' : World} {g : Nat} {A : Option Addr} {len cap B : Nat} (h : CurOk w g A len cap) (hk : ∀ (k : Nat) (o : Obj), w.heap[k]? = some o → (∀ c fz, o ≠ .cells c 5 fz) → w'.heap[k]? = some o)
    (hb : Below B w w') (hB : ∀ k, k < len → ∀ (b off : Nat), A = some ⟨b, off, none⟩ → b < B) : CurOk w' g A len cap := by
  obtain ⟨hl, ⟨i, q, hc⟩, hcode⟩ := h
  refine ⟨hl, ⟨i, q, hk g _ hc (fun c fz e => by simp at e)⟩, fun k hlt => ?_⟩
  obtain ⟨b, off, z, hA, hbg, hbs, h0, h1, hcell⟩ := hcode k hlt
  exact ⟨b, off, z, hA, hbg, Nat.lt_of_lt_of_le hbs hb.size, h0, h1, (hb.cell (p := ⟨b, off + k, none⟩) (hB k hlt b off hA)).trans hcell⟩
theorem grown_below {a b c : World} {row : Option Nat} (h : a.grownBy b row) (k : Below a.heap.size b c) : a.grownBy c row :=
  ⟨k.os.trans h.os, k.tape.trans h.tape, k.output.trans h.output, Nat.le_trans h.size k.size, fun i hi hne => (k.block i hi).trans (h.block i hi hne)⟩
/-- A text of at most 'most' bytes, the cursor behind it. -/
def TextPost (most : Nat) (w : World) (g : Nat) (A : Option Addr) (len cap : Nat) (e : Ending) (w' : World) : Prop :=
  ∃ t : ByteArray, t.size ≤ most ∧ e = .returned (.string t) ∧ CurOk w' g A len cap ∧ w.grownBy w' (some g)

set_option maxHeartbeats 2000000 in
theorem text_ok (w : World) (g : Nat) (A : Option Addr) (len cap most : Nat) (hm : most ≤ 1000) (hc : CurOk w g A len cap) :
    Calls Tryd.prog 23 #[.pointer (some ⟨g, 0, none⟩), .int .i64 most] w (TextPost most w g A len cap) := by
  have HC := Lib.hid hc
  have hAB : Hid (∀ k, k < len → ∀ (b off : Nat), A = some ⟨b, off, none⟩ → b < w.heap.size) := fun k hk b off hA => by
    obtain ⟨b', off', z, hA', _, hbs, _⟩ := hc.2.2 k hk
    rw [hA] at hA'
    injection hA' with hA'
    injection hA' with h1 h2
    omega
  clear hc
  go_enter Tryd.func23, Tryd.ntmps23
  go_wp2_with fail
  refine (below_ok _ g A len cap 4 (HC.out.alloc _) (by omega) (by omega)).mono ?_
  rintro e w1 ⟨st, ⟨s0, s1⟩, rfl, hc1, hg1⟩
  have HO1 : Hid (w1.ownsRow w.heap.size 5 1 (.slice (some ⟨w.heap.size, 0, none⟩) 0 0) 0 (cellsB [])) := own_cur (World.ownsRow_lit w #[] 0 (Nat.le_refl _) (by unfold maxLen; omega) rfl) (HC.out.alloc _) hg1
  have HG1 := Lib.hid (grown_trans (World.grownBy_alloc w _ _) hg1)
  have HC1 := Lib.hid hc1
  clear hc1 hg1
  go_wp2_with fail
  refine (below_ok _ g A len cap ((most : Int) + 1) HC1.out (by omega) (by omega)).mono ?_
  rintro e w2 ⟨n, ⟨n0, n1⟩, rfl, hc2, hg2⟩
  have HO2 := Lib.hid (own_cur HO1.out HC1.out hg2)
  have HG2 := Lib.hid (grown_trans HG1.out hg2)
  have HC2 := Lib.hid hc2
  clear hc2 hg2
  go_wp2
  go_loopw [5, 7] (fun v nv wr => ∃ (k j : Nat) (out : List UInt8), nv = .int .i64 k ∧ j + k ≤ most ∧ Hid (wr.ownsRow w.heap.size 5 1 v j (cellsB out)) ∧ Hid (CurOk wr g A len cap) ∧ Hid (w.grownBy wr (some g))) (fun _ nv _ => (intOf nv).toNat)
  case atStart => exact ⟨n.toNat, 0, [], by go_num, by omega, HO2, HC2, HG2⟩
  case round =>
    obtain ⟨k, j, out, rfl, hjk, HO, HK, HG⟩ := hrel
    by_cases hk : 0 < k
    · have hki : (0 : Int) < (k : Int) := by omega
      go_wp2_with fail
      refine (byte_ok _ g A len cap HK.out).mono ?_
      rintro e w3 ⟨x, ⟨x0, x1⟩, rfl, hc3, hg3⟩
      have hown := own_cur HO.out HK.out hg3
      have HG3 := Lib.hid (grown_trans HG.out hg3)
      have HC3 := Lib.hid hc3
      have hsz := HG3.out.size
      have hj : j ≤ 70368744177664 := by omega
      clear hc3 hg3
      obtain ⟨k, rfl⟩ : ∃ m, k = m + 1 := ⟨k - 1, by omega⟩
      rcases (show st = 1 ∨ st = 2 ∨ (st ≠ 1 ∧ st ≠ 2) from by omega) with hst | hst | ⟨hst, hst2⟩
      · have t1 : (st == 1) = true := by simpa using hst
        have t2 : (st == 2) = false := by simp; omega
        clear hst
        go_wp2_with (at_builtin; refine wpList_append_byte_k _ rfl (.tmp 31) (.tmp 34) rfl w.heap.size _ j out rfl hown (x % 2) (by omega) (by omega) rfl hj hsz ?_; intro v' w' hown' hb' hk')
        go_roundw
        case rel => exact ⟨k, j + 1, _, by go_num, by omega, hown', HC3.out.far hk' hb' hAB.out, grown_below HG3.out hb'⟩
        case measure => simp [intOf]
      · have t1 : (st == 1) = false := by simp; omega
        have t2 : (st == 2) = true := by simpa using hst
        clear hst
        go_wp2_with (at_builtin; refine wpList_append_byte_k _ rfl (.tmp 31) (.tmp 34) rfl w.heap.size _ j out rfl hown (97 + x % 4) (by omega) (by omega) rfl hj hsz ?_; intro v' w' hown' hb' hk')
        go_roundw
        case rel => exact ⟨k, j + 1, _, by go_num, by omega, hown', HC3.out.far hk' hb' hAB.out, grown_below HG3.out hb'⟩
        case measure => simp [intOf]
      · have t1 : (st == 1) = false := by simpa using hst
        have t2 : (st == 2) = false := by simpa using hst2
        clear hst hst2
        go_wp2_with (at_builtin; refine wpList_append_byte_k _ rfl (.tmp 31) (.tmp 34) rfl w.heap.size _ j out rfl hown (x) (by omega) (by omega) rfl hj hsz ?_; intro v' w' hown' hb' hk')
        go_roundw
        case rel => exact ⟨k, j + 1, _, by go_num, by omega, hown', HC3.out.far hk' hb' hAB.out, grown_below HG3.out hb'⟩
        case measure => simp [intOf]
    · have hcv := conv_own HO.out
      have hki : ¬ (0 : Int) < (k : Int) := by omega
      have hl : out.length = j := by have := HO.out.1; simpa [cellsB] using this
      have HT : Hid ((⟨out.toArray⟩ : ByteArray).size ≤ most) := by unfold Hid; simp [ByteArray.size]; omega
      clear hl
      go_wp2
      go_ret
      exact ⟨⟨out.toArray⟩, HT.out, rfl, HK.out, HG.out⟩

/-- The code as the law takes it: its bytes can be read. -/
def CodeArg (w : World) (A : Option Addr) (len : Nat) : Prop :=
  ∀ k, k < len → ∃ (b off : Nat) (z : Int), A = some ⟨b, off, none⟩ ∧ b < w.heap.size ∧ 0 ≤ z ∧ z ≤ 255 ∧ w.cell? ⟨b, off + k, none⟩ = some (.int .u8 z)
theorem CodeArg.below {w w' : World} {A : Option Addr} {len : Nat} (h : CodeArg w A len) (hb : Below w.heap.size w w') : CodeArg w' A len := fun k hk => by
  obtain ⟨b, off, z, hA, hbs, h0, h1, hc⟩ := h k hk
  exact ⟨b, off, z, hA, Nat.lt_of_lt_of_le hbs hb.size, h0, h1, (hb.cell (p := ⟨b, off + k, none⟩) hbs).trans hc⟩
theorem andMask (a : Int) : 0 ≤ bits .and .i64 a 1073741823 ∧ bits .and .i64 a 1073741823 ≤ 1073741823 := by
  have h1 : ((BitVec.ofInt 64 a &&& BitVec.ofInt 64 1073741823).toNat) ≤ 1073741823 := by
    rw [BitVec.toNat_and]
    exact Nat.and_le_right
  have h2 : bits .and .i64 a 1073741823 = (((BitVec.ofInt 64 a &&& BitVec.ofInt 64 1073741823).toNat : Nat) : Int) := by
    show IntKind.i64.wrap (((BitVec.ofInt 64 a &&& BitVec.ofInt 64 1073741823).toNat : Nat) : Int) = _
    exact IntWalk.i64_in _ (by omega)
  rw [h2]
  omega
/-- A new cursor, and nothing of what there was has turned. -/
def NewPost (w : World) (A : Option Addr) (len cap : Nat) (e : Ending) (w' : World) : Prop :=
  e = .returned (.pointer (some ⟨w.heap.size, 0, none⟩)) ∧ CurOk w' w.heap.size A len cap ∧ Below w.heap.size w w'

set_option maxRecDepth 20000 in
set_option maxHeartbeats 1000000 in
theorem new_ok (w : World) (A : Option Addr) (len cap : Nat) (hl : len ≤ 1048576) (hcode : CodeArg w A len) :
    Calls Tryd.prog 21 #[.slice A len cap] w (NewPost w A len cap) := by
  have HC := Lib.hid hcode
  clear hcode
  go_enter Tryd.func21, Tryd.ntmps21
  go_wp2
  go_loop [3, 4] (fun hv iv => ∃ (h : Int) (i : Nat), hv = .int .i64 h ∧ iv = .int .i64 i ∧ i ≤ len ∧ i ≤ 4000 ∧ 0 ≤ h ∧ h ≤ 1073741823) (fun _ iv => 4001 - (intOf iv).toNat)
  case atStart => exact ⟨_, 0, rfl, rfl, by omega, by omega, by omega, by omega⟩
  case round =>
    obtain ⟨h, i, rfl, rfl, hil, hi4, h0, h1⟩ := hrel
    by_cases hlt : i < len ∧ i < 4000
    · obtain ⟨l1, l2⟩ := hlt
      obtain ⟨b, off, z, rfl, hbs, hz0, hz1, hcell⟩ := HC.out i l1
      have hm := andMask (h * 131 + z + 7)
      go_wp2
      go_round
      case rel => exact ⟨_, i + 1, rfl, by go_num, by omega, by omega, hm.1, hm.2⟩
      case measure => simp [intOf]; omega
    · have HN : Hid (∀ q : Int, CurOk (w.alloc (.cells #[.slice A len cap, .int .i64 (0 : Nat), .int .i64 q] 49)) w.heap.size A len cap) := fun q =>
        ⟨hl, ⟨0, q, heap_alloc_new w _⟩, fun k hk => by
          obtain ⟨b, off, z, hA, hbs, h0, h1, hc⟩ := HC.out k hk
          exact ⟨b, off, z, hA, by omega, by simp; omega, h0, h1, (((Below.refl w.heap.size w).alloc (Nat.le_refl _) _).cell (p := ⟨b, off + k, none⟩) hbs).trans hc⟩⟩
      by_cases hq : i < len
      · have hq4 : ¬ i < 4000 := by omega
        clear hlt
        go_wp2
        go_ret
        exact ⟨rfl, HN.out h, (Below.refl _ _).alloc (Nat.le_refl _) _⟩
      · clear hlt
        go_wp2
        go_ret
        exact ⟨rfl, HN.out h, (Below.refl _ _).alloc (Nat.le_refl _) _⟩
end Go.Proofs.YtfidmjpgceljkaaDoor
