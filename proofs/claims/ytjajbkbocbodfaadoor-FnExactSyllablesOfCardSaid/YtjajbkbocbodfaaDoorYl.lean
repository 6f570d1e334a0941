/- The laws' marks over rows of syllables: what markSyllableS, heldSyllableS answer. -/
import Derived.Test.YtjajbkbocbodfaaDoorAppY
import Derived.Test.YtjajbkbocbodfaaDoorLk
import Derived.Lib.QuietBelow
namespace Go.Proofs.YtjajbkbocbodfaaDoor
open Go.RowKit Go.Sort M

def mkL (k : Nat) : List UInt8 := (mkT k).data.toList
theorem bs_mk (k : Nat) : bs (mkL k) = mkT k := bs_self _
def mkY (i : Nat) : Syl := ⟨mkL (1 + 3 * i), mkL (1 + 3 * i + 1), mkL (1 + 3 * i + 2)⟩
def mkYs (n : Nat) : List Syl := (List.range n).map mkY
theorem mkYs_len (n : Nat) : (mkYs n).length = n := by simp [mkYs]
theorem mkYs_at (n i : Nat) (h : i < n) : (mkYs n).getD i syZ = mkY i := by
  unfold mkYs; rw [List.getD_eq_getElem?_getD, List.getElem?_map, List.getElem?_range h]; rfl
theorem mkYs_step (l : List Syl) (k : Nat) (h : k < l.length) : (((cellsY (mkYs k ++ l.drop k)).set (k * 3) (.string (mkT (1 + 3 * k)))).set (k * 3 + 1) (.string (mkT (1 + 3 * k + 1)))).set (k * 3 + 2) (.string (mkT (1 + 3 * k + 2))) = cellsY (mkYs (k + 1) ++ l.drop (k + 1)) := by
  have hc : (cellsY (mkYs k)).length = k * 3 := by rw [cellsY_len, mkYs_len]
  have ec : ∀ (x : Syl) (r : List Syl), cellsY (x :: r) = .string (bs x.o) :: .string (bs x.n) :: .string (bs x.c) :: cellsY r := fun x r => by unfold cellsY; rw [List.flatMap_cons]; rfl
  have e1 : mkYs (k + 1) = mkYs k ++ [mkY k] := by unfold mkYs; rw [List.range_succ, List.map_append]; rfl
  rw [e1, List.drop_eq_getElem_cons h, List.append_assoc, cellsY_append, cellsY_append, ec, List.singleton_append, ec]
  generalize cellsY (l.drop (k + 1)) = R
  generalize cellsY (mkYs k) = L at hc
  rw [List.set_append_right _ _ (by omega), List.set_append_right _ _ (by omega), List.set_append_right _ _ (by omega), hc, Nat.sub_self, show k * 3 + 1 - k * 3 = 1 by omega, show k * 3 + 2 - k * 3 = 2 by omega]
  unfold mkY
  rw [bs_mk, bs_mk, bs_mk]
  rfl
theorem syl_form {w : World} {base : Nat} {v : Value} {n : Nat} {xs : List Value} (h : w.ownsRow base 38 3 v n xs) (hn : 0 < n) : ∃ g cap, v = .slice (some ⟨g, 0, none⟩) n cap ∧ base ≤ g := by
  rcases h.2 with ⟨rfl, h0⟩ | ⟨g, cap, cur, rfl, hb, _⟩
  · omega
  · exact ⟨g, cap, rfl, hb⟩
/-- A place of a row: what a store there wants, what it leaves. -/
theorem place {w : World} {base g n cap : Nat} {xs : List Value} (h : w.ownsRow base 38 3 (.slice (some ⟨g, 0, none⟩) n cap) n xs) (j : Nat) (hj : j < n * 3) (u : Value) :
    (∃ z, w.cell? ⟨g, j, none⟩ = some z) ∧ w.frozen? ⟨g, j, none⟩ = false ∧ (w.setCell ⟨g, j, none⟩ u).ownsRow base 38 3 (.slice (some ⟨g, 0, none⟩) n cap) n (xs.set j u) := by
  refine ⟨?_, h.frozenAt j, (h.stored j u).1⟩
  rw [h.cellAt j hj]
  exact ⟨_, List.getElem?_eq_getElem (by rw [h.1]; omega)⟩
theorem markT_any (z : Int) (k : Nat) (w : World) (hz : z = k) (h1 : 1 ≤ k) (h2 : k ≤ 1000000000) :
    Calls Tryd.prog 64 #[.int .i64 z] w fun e w' => e = .returned (.string (mkT k)) ∧ Below w.heap.size w w' := by
  subst hz; exact markText_any k w h1 h2
set_option maxHeartbeats 1000000 in
theorem markSyls_any (v : Value) (base : Nat) (l : List Syl) (w : World) (hn : l.length ≤ 1000000) (hv : w.ownsRow base 38 3 v l.length (cellsY l)) (hbase : base ≤ w.heap.size) :
    Calls Tryd.prog 42 #[v, .int .i64 1] w fun e w' => e = .returned (.int .i64 (1 + 3 * (l.length : Int))) ∧ w'.ownsRow base 38 3 v l.length (cellsY (mkYs l.length)) ∧ Below base w w' := by
  obtain ⟨A, c1, rfl, _⟩ := syl_read hv
  have HV := Lib.hid hv
  clear hv
  have HST := Lib.hid (mkYs_step l)
  have HEND : Hid (mkYs l.length ++ l.drop l.length = mkYs l.length) := by unfold Hid; rw [List.drop_length, List.append_nil]
  generalize hl : l.length = n at *
  have HL := Lib.hid hl
  clear hl
  go_enter Tryd.func42, Tryd.ntmps42
  go_wp2
  go_loopw [1, 5] (fun q i wr => ∃ (k : Nat), k ≤ n ∧ i = .int .i64 k ∧ q = .int .i64 (1 + 3 * (k : Int)) ∧ wr.ownsRow base 38 3 (.slice A n c1) n (cellsY (mkYs k ++ l.drop k)) ∧ Below base w wr) (fun _ i _ => n - (intOf i).toNat)
  case atStart => exact ⟨0, by omega, rfl, by go_num, HV.out, Below.refl _ _⟩
  case round =>
    obtain ⟨k, hk, rfl, rfl, hown, hb⟩ := hrel
    by_cases hkl : k < n
    · obtain ⟨g, cap, he, hgb⟩ := syl_form hown (by omega)
      obtain ⟨rfl, _, rfl⟩ := Value.slice.inj he
      have HB := Lib.hid hb
      have HO := Lib.hid hown
      have HSK := Lib.hid (HST.out k hkl)
      clear he hown hb
      generalize cellsY (mkYs k ++ l.drop k) = xs at *
      go_wp2_with fail
      refine (markT_any _ (1 + 3 * k) _ (by omega) (by omega) (by omega)).mono ?_
      rintro e w1 ⟨rfl, hb1⟩
      obtain ⟨⟨z0, p0⟩, q0, o0⟩ := place (own_kept hb1 HO.out) (k * 3) (by omega) (.string (mkT (1 + 3 * k)))
      have B1 := Lib.hid ((HB.out.trans (hb1.mono (Nat.le_trans hbase HB.out.size))).setCell (p := ⟨g, k * 3, none⟩) hgb (.string (mkT (1 + 3 * k))))
      have O1 := Lib.hid o0
      clear hb1 o0
      go_wp2_with fail
      refine (markT_any _ (1 + 3 * k + 1) _ (by omega) (by omega) (by omega)).mono ?_
      rintro e w2 ⟨rfl, hb2⟩
      clear p0 q0
      obtain ⟨⟨z1, p1⟩, q1, o1⟩ := place (own_kept hb2 O1.out) (k * 3 + 1) (by omega) (.string (mkT (1 + 3 * k + 1)))
      have B2 := Lib.hid ((B1.out.trans (hb2.mono (Nat.le_trans hbase B1.out.size))).setCell (p := ⟨g, k * 3 + 1, none⟩) hgb (.string (mkT (1 + 3 * k + 1))))
      have O2 := Lib.hid o1
      clear hb2 o1
      go_wp2_with fail
      refine (markT_any _ (1 + 3 * k + 2) _ (by omega) (by omega) (by omega)).mono ?_
      rintro e w3 ⟨rfl, hb3⟩
      clear p1 q1
      obtain ⟨⟨z2, p2⟩, q2, o2⟩ := place (own_kept hb3 O2.out) (k * 3 + 2) (by omega) (.string (mkT (1 + 3 * k + 2)))
      have B3 := Lib.hid ((B2.out.trans (hb3.mono (Nat.le_trans hbase B2.out.size))).setCell (p := ⟨g, k * 3 + 2, none⟩) hgb (.string (mkT (1 + 3 * k + 2))))
      have O3 := Lib.hid o2
      clear hb3 o2
      go_wp2
      go_roundw
      case rel =>
        refine ⟨k + 1, by omega, by go_num, by go_num, ?_, B3.out⟩
        rw [← HSK.out]
        exact O3.out
      case measure => simp [intOf]; omega
    · obtain rfl : k = n := by omega
      rw [HEND.out] at hown
      go_wp2
      go_ret
      exact ⟨rfl, hown, hb⟩
set_option maxHeartbeats 1000000 in
theorem heldSyls_any (v : Value) (base n : Nat) (w : World) (hn : n ≤ 1000000) (hv : w.ownsRow base 38 3 v n (cellsY (mkYs n))) :
    Calls Tryd.prog 43 #[v, .int .i64 1] w fun e w' => e = .returned (.int .i64 (1 + 3 * (n : Int))) ∧ Below w.heap.size w w' := by
  have hv' : w.ownsRow base 38 3 v (mkYs n).length (cellsY (mkYs n)) := by rw [mkYs_len]; exact hv
  obtain ⟨A, c1, rfl, hA⟩ := syl_read hv'
  rw [mkYs_len] at hA
  rw [mkYs_len]
  have HA := Lib.hid hA
  clear hA hv hv'
  go_enter Tryd.func43, Tryd.ntmps43
  go_wp2
  go_loopw [1, 5] (fun q i wr => ∃ (k : Nat), k ≤ n ∧ i = .int .i64 k ∧ q = .int .i64 (1 + 3 * (k : Int)) ∧ Below w.heap.size w wr) (fun _ i _ => n - (intOf i).toNat)
  case atStart => exact ⟨0, by omega, rfl, by go_num, Below.refl _ _⟩
  case round =>
    obtain ⟨k, hk, rfl, rfl, hb⟩ := hrel
    by_cases hkl : k < n
    · obtain ⟨g, rfl, h0, h1, h2⟩ := HA.out k hkl
      rw [mkYs_at n k hkl] at h0 h1 h2
      unfold mkY at h0 h1 h2
      simp only [bs_mk] at h0 h1 h2
      have c0 := cell_kept hb h0
      have c1 := cell_kept hb h1
      have c2 := cell_kept hb h2
      have HB := Lib.hid hb
      clear h0 h1 h2 hb
      obtain ⟨wo, rfl⟩ : ∃ wo : World, wo = wr := ⟨_, rfl⟩
      have g0 := fun d os => cell_regrown c0 d os
      have cV : ∀ d os, Calls Tryd.prog 64 #[.int .i64 (1 + 3 * (k : Int))] (grow (redrawn wo d) os) fun e w'' => e = .returned (.string (mkT (1 + 3 * k))) ∧ ∃ p : Regrown, w'' = grow (redrawn wo p.d) p.os :=
        fun d os => Calls.regrown_of (markT_any _ (1 + 3 * k) _ (by omega) (by omega) (by omega))
      go_wp2
      refine wp_region_quiet_below (by kernel_rfl) (by kernel_rfl) ?_
      repeat (quiet_step (exact cV _ _))
      refine wpQuiet_nil ?_
      intro _ hw'
      obtain ⟨⟨dq, osq⟩, hw''⟩ := hw'
      subst hw''
      clear cV g0
      have hbq := below_regrown wo dq osq
      replace c1 := cell_kept hbq c1
      replace c2 := cell_kept hbq c2
      have HB1 := Lib.hid (HB.out.trans (hbq.mono HB.out.size))
      generalize grow (redrawn wo dq) osq = wa at *
      clear hbq c0
      have g1 := fun d os => cell_regrown c1 d os
      have cV : ∀ d os, Calls Tryd.prog 64 #[.int .i64 (1 + 3 * (k : Int) + 1)] (grow (redrawn wa d) os) fun e w'' => e = .returned (.string (mkT (1 + 3 * k + 1))) ∧ ∃ p : Regrown, w'' = grow (redrawn wa p.d) p.os :=
        fun d os => Calls.regrown_of (markT_any _ (1 + 3 * k + 1) _ (by omega) (by omega) (by omega))
      go_wp2
      refine wp_region_quiet_below (by kernel_rfl) (by kernel_rfl) ?_
      repeat (quiet_step (exact cV _ _))
      refine wpQuiet_nil ?_
      intro _ hw'
      obtain ⟨⟨dq, osq⟩, hw''⟩ := hw'
      subst hw''
      clear cV g1
      have hbq := below_regrown wa dq osq
      replace c2 := cell_kept hbq c2
      have HB2 := Lib.hid (HB1.out.trans (hbq.mono HB1.out.size))
      generalize grow (redrawn wa dq) osq = wb at *
      clear hbq c1
      have g2 := fun d os => cell_regrown c2 d os
      have cV : ∀ d os, Calls Tryd.prog 64 #[.int .i64 (1 + 3 * (k : Int) + 1 + 1)] (grow (redrawn wb d) os) fun e w'' => e = .returned (.string (mkT (1 + 3 * k + 2))) ∧ ∃ p : Regrown, w'' = grow (redrawn wb p.d) p.os :=
        fun d os => Calls.regrown_of (markT_any _ (1 + 3 * k + 2) _ (by omega) (by omega) (by omega))
      go_wp2
      refine wp_region_quiet_below (by kernel_rfl) (by kernel_rfl) ?_
      repeat (quiet_step (exact cV _ _))
      refine wpQuiet_nil ?_
      intro _ hw'
      obtain ⟨⟨dq, osq⟩, hw''⟩ := hw'
      subst hw''
      clear cV g2
      have hbq := below_regrown wb dq osq
      have HB3 := Lib.hid (HB2.out.trans (hbq.mono HB2.out.size))
      generalize grow (redrawn wb dq) osq = wc at *
      clear hbq c2
      go_wp2
      go_roundw
      case rel => exact ⟨k + 1, by omega, by go_num, by go_num, HB3.out⟩
      case measure => simp [intOf]; omega
    · obtain rfl : k = n := by omega
      go_wp2
      go_ret
      exact ⟨rfl, hb⟩
end Go.Proofs.YtjajbkbocbodfaaDoor
