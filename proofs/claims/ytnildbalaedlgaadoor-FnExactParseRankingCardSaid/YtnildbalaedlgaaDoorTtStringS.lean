/- The laws' toStringS. -/
import Derived.Test.YtnildbalaedlgaaDoorRp
import Derived.Test.YtnildbalaedlgaaDoorLk
import Derived.WalkKit
import Derived.BigQuiet
import Derived.Lib.QuietBelow
import Derived.Test.YtnildbalaedlgaaDoorRows
import Derived.Test.YtnildbalaedlgaaDoorRet
namespace Go.Proofs.YtnildbalaedlgaaDoor
set_option maxRecDepth 100000
open Go.RowKit Go.Sort
set_option linter.unusedVariables false
set_option linter.unusedSimpArgs false

theorem Tryd.infoTString : (Tryd.prog.info? 9).map (fun i => (i.zero, i.size, i.bytes)) = some (some (.string ⟨#[]⟩), 1, 16) := by kernel_rfl
/-- The new row's capacity is its length. -/
def OwnPostS (l : List ByteArray) (w : World) (e : Ending) (w' : World) : Prop := ∃ A, e = .returned (.slice A l.length l.length) ∧ RowRd (Rep.str mkT) true w' (.slice A l.length l.length) l (fun a => w.heap.size ≤ a.block) ∧ Below w.heap.size w w'
set_option maxHeartbeats 2000000 in
theorem toStringS_any (v : Value) (l : List ByteArray) (F : Addr → Prop) (w : World) (hm : szRow (Rep.str mkT) l ≤ 1048576) (hv : RowRd (Rep.str mkT) false w v l F) :
    Calls Tryd.prog 7 #[v] w (OwnPostS l w) := by
  have hml := Nat.le_trans (szRow_len (Rep.str mkT) l) hm
  obtain ⟨A, cap, rfl⟩ := hv.form
  have HV := Lib.hid hv
  have HSZ : Hid (∀ k x, l[k]? = some x → (Rep.str mkT).sz x ≤ 1048576) := fun k x h => Nat.le_trans (szRow_at _ _ _ h) hm
  clear hv hm
  have HX : Hid (∀ k, k < l.length → ∃ x, l[k]? = some x) := fun k hk => ⟨_, List.getElem?_eq_getElem hk⟩
  have H0 := Lib.hid (cpTo_zero ByteArray.empty l)
  have HA := Lib.hid (cpTo_all ByteArray.empty l)
  have HAT := Lib.hid (cpTo_at ByteArray.empty l)
  have HST : Hid (∀ k x, l[k]? = some x → (cpTo ByteArray.empty l k).set k x = cpTo ByteArray.empty l (k + 1)) := fun k x h => cpTo_step _ _ _ h
  have HP : Hid (∀ (A : Option Addr) (w' : World), RowRd (Rep.str mkT) true w' (.slice A l.length l.length) l (fun a => w.heap.size ≤ a.block) → Below w.heap.size w w' → OwnPostS l w (.returned (.slice A l.length l.length)) w') := fun u w' h1 h2 => ⟨u, rfl, h1, h2⟩
  generalize hll : l.length = n at *
  clear hll
  obtain ⟨i0, hi, hz0, hz1, hz2⟩ := info_parts Tryd.infoTString
  go_enter Tryd.func7, Tryd.ntmps7
  go_wp2_with (at_make; refine wpList_make_full _ rfl _ _ 22 rfl w.heap.size 9 i0 (.string ⟨#[]⟩) 1 Tryd.underlying22 hi hz0 hz1 .i64 .i64 _ _ n rfl rfl rfl rfl (by rw [hz2]; omega) (by unfold maxLen; omega) (Nat.le_refl _) ?_; intro w1 hown1 hgrow1)
  have hb1 : Below w.heap.size w w1 := (Below.refl _ _).grown hgrow1 (Nat.le_refl _) (fun _ h => by cases h)
  have HO1 : Hid (RowRd (Rep.str mkT) true w1 (.slice (some ⟨w.heap.size, 0, none⟩) n n) (cpTo ByteArray.empty l 0) (fun a => w.heap.size ≤ a.block)) := by
    unfold Hid
    rw [H0.out]
    rw [show (Value.cells (.string ⟨#[]⟩)) = #[.string ⟨#[]⟩] from rfl] at hown1
    have hlr : (List.replicate n (ByteArray.empty : ByteArray)).length = n := List.length_replicate
    refine (RowRd.of_flat (E := (Rep.str mkT)) (l := List.replicate n ByteArray.empty) (base := w.heap.size) (e := 9) (cells := (madeCells #[.string ⟨#[]⟩] (n * 1)).toList) (by rw [hlr]; exact hown1) (by rw [hlr]; omega) ?_).mono (fun a ha => ha.1)
    intro k x hk
    rw [List.getElem?_replicate] at hk
    split at hk
    · cases hk
      refine ⟨[.string ⟨#[]⟩], ?_, ⟨rfl, by decide⟩⟩
      intro j u hj
      have hjn : j < 1 := (List.getElem?_eq_some_iff.1 hj).1
      rw [show (Rep.str mkT).size = 1 from rfl, made_at _ _ _ (by omega) (by decide), show (#[.string ⟨#[]⟩] : Array Value).size = 1 from rfl, show (k * 1 + j) % 1 = j by omega]
      simpa using hj
    · cases hk
  have HB1 := Lib.hid hb1
  clear hown1 hgrow1 hb1
  go_wp2
  go_loopw [4] (fun i wr => ∃ (k : Nat), k ≤ n ∧ i = .int .i64 k ∧ RowRd (Rep.str mkT) true wr (.slice (some ⟨w.heap.size, 0, none⟩) n n) (cpTo ByteArray.empty l k) (fun a => w.heap.size ≤ a.block) ∧ Below w.heap.size w wr) (fun i _ => n - (intOf i).toNat)
  case atStart => exact ⟨0, by omega, rfl, HO1.out, HB1.out⟩
  case round =>
    obtain ⟨k, hk, rfl, hrow, hbe⟩ := hrel
    have HBE := Lib.hid hbe
    clear hbe
    by_cases hkl : k < n
    · obtain ⟨x, hx⟩ := HX.out k hkl
      have HSX := Lib.hid (HST.out k x hx)
      have hszx := HSZ.out k x hx
      obtain ⟨sg, so, xs, Fs, rfl, _, hsr, _, hsc⟩ := (HV.out.kept HBE.out).get hx
      simp only [show (Rep.str mkT).size = 1 from rfl, Nat.mul_one] at hsc
      obtain ⟨rfl, i0'⟩ := id hsr
      have c0 := hsc 0 _ rfl
      simp only [Nat.add_zero] at c0
      clear hsc hsr
      have hrow2 := hrow.tight
      clear hrow
      obtain ⟨g, off, ys, Fk, hge, hrd, hel, hFk, hcl, hput⟩ := hrow2.open (HAT.out k hkl)
      cases hge
      simp only [show (Rep.str mkT).size = 1 from rfl, Nat.mul_one] at hel hcl hput
      simp only [Nat.zero_add] at hel hput
      obtain ⟨rfl, _⟩ := id hrd
      have d0 := hel.cell 0 rfl
      have f0 := hel.free 0 (by decide)
      simp only [Nat.zero_add, Nat.add_zero] at d0 f0
      have hs0 := hel.set 0 (by decide) (.string x)
      simp only [List.set, Nat.zero_add, Nat.add_zero] at hs0
      have HBB := Lib.hid (HBE.out.setCell (p := ⟨w.heap.size, k, none⟩) (Nat.le_refl _) (.string x))
      have HNEW := Lib.hid ((hput _ _ x (fun _ => False) hs0 (⟨rfl, i0'⟩) (fun a h => h.elim)).mono (fun a h => h.elim (fun h => h.1) (fun h => h.elim)))
      rw [HSX.out] at HNEW
      clear hput hel hs0 hrd hFk hcl
      try clear hrow2
      go_wp2
      go_roundw
      case rel => exact ⟨k + 1, by omega, by go_num, HNEW.out, HBB.out⟩
      case measure => simp [intOf]; omega
    · obtain rfl : k = n := by omega
      rw [HA.out] at hrow
      have HRR := Lib.hid hrow
      clear hrow
      go_wp2
      go_ret
      exact HP.out _ _ HRR.out HBE.out
end Go.Proofs.YtnildbalaedlgaaDoor
