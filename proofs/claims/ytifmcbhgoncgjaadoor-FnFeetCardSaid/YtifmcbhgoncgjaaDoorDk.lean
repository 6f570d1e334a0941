/- The model's drawing of inputs: a new cursor, a coin. Of what there was before the call only the cursor's own block turns. -/
import Derived.Test.YtifmcbhgoncgjaaDoorD2
namespace Go.Proofs.YtifmcbhgoncgjaaDoor
open Go.RowKit M

theorem CurOk.alloc {w : World} {g : Nat} {A : Option Addr} {len cap : Nat} (h : CurOk w g A len cap) (o : Obj) : CurOk (w.alloc o) g A len cap := by
  have hlt := h.lt
  obtain ⟨hl, ⟨i, q, hc⟩, hcode⟩ := h
  exact ⟨hl, ⟨i, q, (Below.heap_alloc w o g hlt).trans hc⟩, hcode.keep (World.grownBy_alloc w o _)⟩
theorem own_cur {w w' : World} {base n g : Nat} {v : Value} {xs : List Value} {A : Option Addr} {len cap : Nat} (h : w.ownsRow base 5 1 v n xs) (hc : CurOk w g A len cap) (hg : w.grownBy w' (some g)) : w'.ownsRow base 5 1 v n xs := by
  refine ⟨h.1, ?_⟩
  rcases h.2 with h2 | ⟨k, c, cur, hv, hk, hh, r⟩
  · exact .inl h2
  · have hlt : k < w.heap.size := lt_of_block hh
    have hne : some k ≠ some g := by
      intro e
      obtain rfl : k = g := by simpa using e
      obtain ⟨_, ⟨i, q, hcur⟩, _⟩ := hc
      rw [show w.heap[k]? = _ from hcur] at hh
      simp at hh
    exact .inr ⟨k, c, cur, hv, hk, (hg.block k hlt hne).trans hh, r⟩
theorem CurOk.far {w w' : World} {g : Nat} {A : Option Addr} {len cap B : Nat} (h : CurOk w g A len cap) (hk : ∀ (k : Nat) (o : Obj), w.heap[k]? = some o → (∀ c fz, o ≠ .cells c 5 fz) → w'.heap[k]? = some o)
    (hb : Below B w w') (hB : ∀ k, k < len → ∀ (b off : Nat), A = some ⟨b, off, none⟩ → b < B) : CurOk w' g A len cap := by
  obtain ⟨hl, ⟨i, q, hc⟩, hcode⟩ := h
  refine ⟨hl, ⟨i, q, hk g _ hc (fun c fz e => by simp at e)⟩, fun k hlt => ?_⟩
  obtain ⟨b, off, z, hA, hbg, hbs, h0, h1, hcell⟩ := hcode k hlt
  exact ⟨b, off, z, hA, hbg, Nat.lt_of_lt_of_le hbs hb.size, h0, h1, (hb.cell (p := ⟨b, off + k, none⟩) (hB k hlt b off hA)).trans hcell⟩
theorem grown_below {a b c : World} {row : Option Nat} (h : a.grownBy b row) (k : Below a.heap.size b c) : a.grownBy c row :=
  ⟨k.os.trans h.os, k.tape.trans h.tape, k.output.trans h.output, Nat.le_trans h.size k.size, fun i hi hne => (k.block i hi).trans (h.block i hi hne)⟩
/-- A text of at most 'most' bytes, the cursor behind it. -/
def TextPost (most : Nat) (w : World) (g : Nat) (A : Option Addr) (len cap : Nat) (e : Ending) (w' : World) : Prop :=
  ∃ t : ByteArray, t.size ≤ most ∧ e = .returned (.string t) ∧ CurOk w' g A len cap ∧ w.grownBy w' (some g)

/-- The code as the law takes it: its bytes can be read. -/
def CodeArg (w : World) (A : Option Addr) (len : Nat) : Prop :=
  ∀ k, k < len → ∃ (b off : Nat) (z : Int), A = some ⟨b, off, none⟩ ∧ b < w.heap.size ∧ 0 ≤ z ∧ z ≤ 255 ∧ w.cell? ⟨b, off + k, none⟩ = some (.int .u8 z)
theorem CodeArg.below {w w' : World} {A : Option Addr} {len : Nat} (h : CodeArg w A len) (hb : Below w.heap.size w w') : CodeArg w' A len := fun k hk => by
  obtain ⟨b, off, z, hA, hbs, h0, h1, hc⟩ := h k hk
  exact ⟨b, off, z, hA, Nat.lt_of_lt_of_le hbs hb.size, h0, h1, (hb.cell (p := ⟨b, off + k, none⟩) hbs).trans hc⟩
theorem andMask (a : Int) : 0 ≤ bits .and .i64 a 1073741823 ∧ bits .and .i64 a 1073741823 ≤ 1073741823 := by
  have h1 : ((BitVec.ofInt 64 a &&& BitVec.ofInt 64 1073741823).toNat) ≤ 1073741823 := by
    rw [BitVec.toNat_and]
    exact Nat.and_le_right
  have h2 : bits .and .i64 a 1073741823 = (((BitVec.ofInt 64 a &&& BitVec.ofInt 64 1073741823).toNat : Nat) : Int) := by
    show IntKind.i64.wrap (((BitVec.ofInt 64 a &&& BitVec.ofInt 64 1073741823).toNat : Nat) : Int) = _
    exact IntWalk.i64_in _ (by omega)
  rw [h2]
  omega
/-- A new cursor, and nothing of what there was has turned. -/
def NewPost (w : World) (A : Option Addr) (len cap : Nat) (e : Ending) (w' : World) : Prop :=
  e = .returned (.pointer (some ⟨w.heap.size, 0, none⟩)) ∧ CurOk w' w.heap.size A len cap ∧ Below w.heap.size w w'

set_option maxRecDepth 20000 in
set_option maxHeartbeats 1000000 in
theorem new_ok (w : World) (A : Option Addr) (len cap : Nat) (hl : len ≤ 1048576) (hcode : CodeArg w A len) :
    Calls Tryd.prog 28 #[.slice A len cap] w (NewPost w A len cap) := by
  have HC := Lib.hid hcode
  clear hcode
  go_enter Tryd.func28, Tryd.ntmps28
  go_wp2
  go_loop [3, 4] (fun hv iv => ∃ (h : Int) (i : Nat), hv = .int .i64 h ∧ iv = .int .i64 i ∧ i ≤ len ∧ i ≤ 4000 ∧ 0 ≤ h ∧ h ≤ 1073741823) (fun _ iv => 4001 - (intOf iv).toNat)
  case atStart => exact ⟨_, 0, rfl, rfl, by omega, by omega, by omega, by omega⟩
  case round =>
    obtain ⟨h, i, rfl, rfl, hil, hi4, h0, h1⟩ := hrel
    by_cases hlt : i < len ∧ i < 4000
    · obtain ⟨l1, l2⟩ := hlt
      obtain ⟨b, off, z, rfl, hbs, hz0, hz1, hcell⟩ := HC.out i l1
      have hm := andMask (h * 131 + z + 7)
      go_wp2
      go_round
      case rel => exact ⟨_, i + 1, rfl, by go_num, by omega, by omega, hm.1, hm.2⟩
      case measure => simp [intOf]; omega
    · have HN : Hid (∀ q : Int, CurOk (w.alloc (.cells #[.slice A len cap, .int .i64 (0 : Nat), .int .i64 q] 66)) w.heap.size A len cap) := fun q =>
        ⟨hl, ⟨0, q, heap_alloc_new w _⟩, fun k hk => by
          obtain ⟨b, off, z, hA, hbs, h0, h1, hc⟩ := HC.out k hk
          exact ⟨b, off, z, hA, by omega, by simp; omega, h0, h1, (((Below.refl w.heap.size w).alloc (Nat.le_refl _) _).cell (p := ⟨b, off + k, none⟩) hbs).trans hc⟩⟩
      by_cases hq : i < len
      · have hq4 : ¬ i < 4000 := by omega
        clear hlt
        go_wp2
        go_ret
        exact ⟨rfl, HN.out h, (Below.refl _ _).alloc (Nat.le_refl _) _⟩
      · clear hlt
        go_wp2
        go_ret
        exact ⟨rfl, HN.out h, (Below.refl _ _).alloc (Nat.le_refl _) _⟩
theorem below_of_new {w w1 w2 : World} (h : Below w.heap.size w w1) (hg : w1.grownBy w2 (some w.heap.size)) : Below w.heap.size w w2 :=
  h.grown hg h.size (fun k hk => by have : w.heap.size = k := by simpa using hk
                                    omega)
/-- A coin, the cursor behind it. -/
def CoinPost (w : World) (g : Nat) (A : Option Addr) (len cap : Nat) (e : Ending) (w' : World) : Prop :=
  ∃ b : Bool, e = .returned (.bool b) ∧ CurOk w' g A len cap ∧ w.grownBy w' (some g)
theorem once_ok (w : World) (g : Nat) (A : Option Addr) (len cap : Nat) (n : Int) (hc : CurOk w g A len cap) (h1 : 1 ≤ n) (h2 : n ≤ 1000000000) :
    Calls Tryd.prog 30 #[.pointer (some ⟨g, 0, none⟩), .int .i64 n] w (CoinPost w g A len cap) := by
  have HC := Lib.hid hc
  clear hc
  go_enter Tryd.func30, Tryd.ntmps30
  go_wp2_with fail
  refine (below_ok _ g A len cap n HC.out h1 h2).mono ?_
  rintro e w1 ⟨x, _, rfl, hc1, hg1⟩
  have HC1 := Lib.hid hc1
  have HG1 := Lib.hid hg1
  clear hc1 hg1
  go_wp2
  go_ret
  exact ⟨_, rfl, HC1.out, HG1.out⟩
end Go.Proofs.YtifmcbhgoncgjaaDoor
