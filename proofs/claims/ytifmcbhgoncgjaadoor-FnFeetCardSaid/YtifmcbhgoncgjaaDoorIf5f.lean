/- The program's feet with each main foot: a copy of the feet for each. -/
import Derived.Test.YtifmcbhgoncgjaaDoorSf6
import Derived.Lib.BufferMore
namespace Go.Proofs.YtifmcbhgoncgjaaDoor
open Go.RowKit
set_option linter.unusedVariables false
set_option linter.unusedSimpArgs false

set_option maxHeartbeats 4000000 in
theorem implClone_any (v : Value) (r : List DFoot) (s : Bool) (F : Addr → Prop) (w : World) (hv : RowRd rFoot s w v r F) (h0 : 0 < r.length) (h1 : r.length ≤ 1000) :
    Calls Tryd.prog 47 #[v] w (OwnPost rFoot r w) := by
  obtain ⟨A, cap, rfl⟩ := hv.form
  obtain ⟨g, off, _, _, rfl, _⟩ := hv.get (List.getElem?_eq_getElem h0)
  have heq := fun w : World => Go.Lib.run_eql_slice_some_nil (P := Tryd.prog) w (t := 29) (e := 53) ⟨g, off, none⟩ r.length cap Tryd.underlying29
  have HV := Lib.hid (hv.kept (w' := w.alloc (.cells #[] 53)) ((Below.refl _ _).alloc (Nat.le_refl _) _)).weak
  have HO0 : Hid (OwnRd rFoot 53 false w.heap.size (w.alloc (.cells #[] 53)) (.slice (some ⟨w.heap.size, 0, none⟩) 0 0) ([] : List DFoot) (fun _ => False)) := OwnRd.empty w (Nat.le_refl _) _
  obtain ⟨i3, hi3, qz3, qz4, qz5⟩ := info_parts Tryd.infoFo
  have HR1 : Hid (r.length ≤ 1000) := h1
  clear hv
  go_enter Tryd.func47, Tryd.ntmps47
  go_wp2_with (at_builtin; refine Hid.out ?_)
  unfold Hid
  have hr1 := HR1.out
  refine wpList_append_row rFoot flatFoot (w.alloc (.cells #[] 53)) rfl (.tmp 5) (.tmp 6) 29 53 i3 (.agg #[.int .i64 0, .int .i64 0, .int .i64 0]) 24 rfl Tryd.underlying29 hi3 qz3 qz4 qz5 rfl (by decide) false false w.heap.size _ _ _ HO0.out rfl (some ⟨g, off, none⟩) r.length cap r F HV.out rfl (by simp) (by omega) (by omega) (by simp) ?_
  intro v2 w2 hown hb hkeep
  rw [List.nil_append] at hown
  have HOW := Lib.hid hown
  have HB := Lib.hid (((Below.refl w.heap.size w).alloc (Nat.le_refl _) (.cells #[] 53)).trans hb)
  clear hown hb hkeep
  go_wp2
  go_ret
  exact ⟨_, rfl, (OwnRd.row HOW.out (by omega)).mono (fun a ha => ha.elim id (fun h => h.elim)), HB.out⟩
/-- What was laid behind a base. -/
theorem OwnRd.behind {α : Type} {E : Rep α} {e : TypeId} {s : Bool} {base : Nat} {w : World} {v : Value} {l : List α} {G : Addr → Prop} (h : OwnRd E e s base w v l G) {b : Nat} (hb : base ≤ b) (hG : ∀ a, G a → b ≤ a.block) : OwnRd E e s base w v l (fun a => b ≤ a.block) := h.mono fun a ha => hG a ha
set_option maxHeartbeats 4000000 in
theorem implEach_any (N : Nat) (v : Value) (r : List DFoot) (F : Addr → Prop) (w : World) (hN : N ≤ 1000) (hr : r.length ≤ 1000) (hv : RowRd rFoot false w v r F) :
    Calls Tryd.prog 36 #[.int .i64 (N : Int), v] w (OwnPost rFooting (footR N r r.length) w) := by
  obtain ⟨A, cap, rfl⟩ := hv.form
  have HV := Lib.hid hv
  have HCL : Hid (∀ W, Below w.heap.size w W → 0 < r.length → Calls Tryd.prog 47 #[.slice A r.length cap] W (OwnPost rFoot r W)) := fun W hW h0 => implClone_any _ r false F W (hv.kept hW) h0 hr
  have HR1 : Hid (r.length ≤ 1000) := hr
  have HO0 : Hid (OwnFt w.heap.size w (.slice none 0 0) (footR N r 0)) := by
    have e : footR N r 0 = [] := rfl
    unfold Hid OwnFt
    rw [e]
    exact OwnRd.nil _ _
  obtain ⟨i1, hi, hz0, hz1, hz2⟩ := info_parts Tryd.infoFt
  clear hv hr
  go_enter Tryd.func36, Tryd.ntmps36
  go_wp2
  go_loopw [5, 9] (fun u s w5 => ∃ (i : Nat), i ≤ r.length ∧ s = .int .i64 i ∧ OwnFt w.heap.size w5 u (footR N r i) ∧ Below w.heap.size w w5) (fun _ s _ => r.length - (intOf s).toNat)
  case atStart => exact ⟨0, by omega, rfl, HO0.out, Below.refl _ _⟩
  case round =>
    obtain ⟨i, hi', rfl, hown5, hbe5⟩ := hrel
    have HO5 := Lib.hid hown5
    have HBE5 := Lib.hid hbe5
    have hr1 := HR1.out
    clear hown5 hbe5
    by_cases hil : i < r.length
    · have hDl : (footR N r i).length ≤ 1000000 := by unfold footR; rw [List.length_map, List.length_range]; omega
      go_wp2_with fail
      refine (HCL.out _ HBE5.out (by omega)).mono ?_
      rintro e w6 ⟨u6, rfl, hrow6, hb6⟩
      have hrow6 := hrow6.tight
      obtain ⟨A6, c6, rfl⟩ := hrow6.form
      have HO6 := Lib.hid (OwnRd.kept HO5.out hb6)
      have HBE6 := Lib.hid (HBE5.out.trans (hb6.mono HBE5.out.size))
      have HWB5 : Hid (w.heap.size ≤ wr.heap.size) := HBE5.out.size
      have HRD6 : Hid (rFooting.rd true w6 [.int .i64 (N : Int), .slice A6 r.length c6, .int .i64 (i : Int)] ⟨(N : Int), r, (i : Int)⟩ (fun p => wr.heap.size ≤ p.block ∧ p.block < w6.heap.size)) := rFooting_mk (x := ⟨(N : Int), r, (i : Int)⟩) (by unfold I64; simp only; omega) hrow6 (by unfold I64; simp only; omega)
      have HLTT : Hid (∀ p : Addr, (wr.heap.size ≤ p.block ∧ p.block < w6.heap.size) → p.block < w6.heap.size ∧ u5.ownBlock ≠ some p.block) := fun p hp => by
        refine ⟨hp.2, fun e => ?_⟩
        have := (OwnRd.lt HO5.out _ e).2
        omega
      have HDS : Hid (∀ p : Addr, (wr.heap.size ≤ p.block ∧ p.block < w6.heap.size) → ¬ (w.heap.size ≤ p.block ∧ p.block < wr.heap.size)) := fun p hp h => by omega
      have hsz6 := hb6.size
      clear hrow6 hb6
      go_wp2_with (at_builtin; refine Hid.out ?_)
      unfold Hid
      refine wpList_append_el rFooting w6 rfl (.tmp 12) (.tmp 18) 26 31 i1 (.agg #[.int .i64 0, .slice none 0 0, .int .i64 0]) 40 rfl Tryd.underlying26 hi hz0 hz1 hz2 rfl (by decide) true w.heap.size _ _ _ HO6.out rfl [.int .i64 (N : Int), .slice A6 r.length c6, .int .i64 (i : Int)] _ _ HRD6.out HLTT.out (fun _ => HDS.out) rfl (fun u hu => by simp at hu; rcases hu with rfl | rfl | rfl <;> rfl) hDl (by omega) HBE6.out.size ?_
      intro v7 w7 hown7 hb7 hkeep7 hmv7
      have HO7 : Hid (OwnFt w.heap.size w7 v7 (footR N r (i + 1))) := by
        unfold Hid
        rw [footR_step]
        have h7 := hb7.size
        exact hown7.mono (fun p hp => by
          rcases hp with hp | hp
          · exact ⟨hp.1, by omega⟩
          · have := HWB5.out; exact ⟨by omega, by omega⟩)
      have HBE7 := Lib.hid (HBE6.out.trans hb7)
      clear hown7 hb7 hkeep7 hmv7
      go_wp2
      go_roundw
      case rel => exact ⟨i + 1, by omega, by go_num, HO7.out, HBE7.out⟩
      case measure => simp [intOf]; omega
    · obtain rfl : i = r.length := by omega
      have hl : (footR N r r.length).length ≤ 1000 := by unfold footR; rw [List.length_map, List.length_range]; exact hr1
      go_wp2
      go_ret
      exact ⟨_, rfl, (OwnRd.row HO5.out (by omega)).mono (fun p hp => hp.elim id (fun h => h.1)), HBE5.out⟩
end Go.Proofs.YtifmcbhgoncgjaaDoor
