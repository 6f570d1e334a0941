/- The program's iterator over the neighbours inside a fence: what it hands to any loop's body. -/
import Derived.Test.YtjajbkbocbodfaaDoorIf5
namespace Go.Proofs.YtjajbkbocbodfaaDoor
open Go.RowKit Go.Shelf Go.Sort M
attribute [local go_sem] Oper.semAt_some
attribute [local simp, local go_sem] wide_fn

set_option maxRecDepth 100000 in
set_option maxHeartbeats 4000000 in
theorem nbIter_in (s : ByteArray) (h8 : s.size < 8) (l n₀ B N : Nat) (J Jx : List ByteArray → World → Prop) (hJd : Drawn J) (hY : Takes l n₀ B N J Jx)
    (n : Nat) (hn : 3 ≤ n) (W : World) (hc : W.cell? ⟨B, 0, none⟩ = some (.string s)) (h0 : J [] W) (hN : 15 * (s.size + 1) + 15 ≤ N) :
    CallsIn Fence.wide n Tryd.prog 67 #[.func (.yield l) #[] #[], .pointer (some ⟨B, 0, none⟩)] W fun e W' =>
      (∃ v, e = .returned v) ∧ ((∃ xs, xs = itTo s (s.size + 1) ∧ J xs W') ∨ (∃ pre, True ∧ Jx pre W')) := by
  have hn1 : 1 ≤ n := by omega
  have hn2 : 1 ≤ n - 1 := by omega
  refine callsIn_of_wp Tryd.func67 rfl trivial ?_ rfl
  simp only [Tryd.ntmps67, List.size_toArray, List.length_cons, List.length_nil, Nat.reduceAdd, Nat.reduceSub, Array.replicate_succ, Array.replicate_zero, List.push_toArray, List.append_toArray, List.nil_append, List.cons_append]
  gi_wp2
  gi_loopw [6] (fun x wr => ∃ (k : Nat), k ≤ s.size ∧ x = .int .i64 k ∧ J (itTo s k) wr ∧ Keep n₀ B W wr) (fun x _ => s.size - (intOf x).toNat)
  case atStart => exact ⟨0, by omega, rfl, h0, Keep.refl _ _ _⟩
  case round =>
    obtain ⟨k, hk, rfl, hJk, hbe⟩ := hrel
    have hck : wr.cell? ⟨B, 0, none⟩ = some (.string s) := (World.cell?_of_block (a := ⟨B, 0, none⟩) hbe.same).trans hc
    have HJK := Lib.hid hJk
    have HBE := Lib.hid hbe
    have hlen := itTo_len s k
    clear hJk hbe
    by_cases hkl : k < s.size
    · have f1 : (0 : Int) ≤ (k : Int) := by omega
      have f2 : (k : Int) ≤ (s.size : Int) := by omega
      have f4 : (k : Int) + 1 ≤ (s.size : Int) := by omega
      have f5 : (0 : Int) ≤ (k : Int) + 1 := by omega
      have fwk : IntKind.i64.wrap ((k : Int) + 1) = (k : Int) + 1 := IntWalk.i64_in _ (by omega)
      have fnk : ((k : Int) + 1).toNat = k + 1 := by omega
      have hadd3 := str_add (s.extract 0 k) (s.extract (k + 1) s.size) (by rw [ex_size s 0 k (by omega), ex_size s (k + 1) s.size (Nat.le_refl _)]; omega)
      have HY := Lib.hid (ysAt_in s k (by omega) h8 l n₀ B N J Jx hJd hY (itTo s k) (n - 1) hn2 wr.drew (hJd _ wr 1 HJK.out) (by omega))
      gi_wp2
      refine wpIn_region_any (by kernel_rfl) ?_
      try (change wpAnyIn _ _ _ _ _ _ _ _ _ (World.drew _))
      refine wpAnyIn_take (i := 1) (v := ?_) rfl rfl (by kernel_rfl) (by kernel_rfl) (by kernel_rfl) (fun _ _ _ h => h) ⟨Or.inl ⟨by rfl, ?_⟩, fun _ => rfl⟩ ?_
      rotate_left
      · intro w; go_simp; try with_reducible rfl
      go_simp
      refine wpAnyIn_take (i := 2) (v := ?_) rfl rfl (by kernel_rfl) (by kernel_rfl) (by kernel_rfl) (fun _ _ _ h => h) ⟨Or.inl ⟨by rfl, ?_⟩, fun _ => rfl⟩ ?_
      rotate_left
      · intro w; go_simp; try with_reducible rfl
      go_simp
      refine wpAnyIn_ready (rs := [0]) (by kernel_rfl) (by simp) ?_
      refine AllReadyIn.cons rfl (fun K hK => ?_) AllReadyIn.nil
      go_simp
      refine hK _ _ ?_
      clear hK K
      go_simp
      refine wpAnyIn_ready (rs := [3]) (by kernel_rfl) (by simp) ?_
      refine AllReadyIn.cons rfl (fun K hK => ?_) AllReadyIn.nil
      go_simp
      gi_wp2_with (gi_at_call 68; refine HY.out.mono ?_; rintro e W3 (⟨rfl, hJ3, hb3⟩ | ⟨rfl, hx⟩))
      · have hc3 : W3.cell? ⟨B, 0, none⟩ = some (.string s) := (World.cell?_of_block (a := ⟨B, 0, none⟩) hb3.same).trans hck
        have HBW : Hid (Keep n₀ B W W3) := HBE.out.trans hb3.of_drew
        have HS : Hid (itTo s (k + 1) = itTo s k ++ (itJ s k 7 ++ [delB s k])) := by unfold Hid; rw [itTo, itI, if_pos hkl]
        have hlen7 := itJ_len s k 7
        obtain ⟨fn, tmps, assign, body, hy, hR⟩ := hY 0 (itTo s k ++ itJ s k 7) (delB s k) W3 hJ3 (by rw [List.length_append]; omega)
        have HR := Lib.hid hR
        clear hR hJ3 hb3
        unfold delB at hy
        refine wpAnyIn_take (i := 4) (v := ?_) rfl rfl (by kernel_rfl) (by kernel_rfl) (by kernel_rfl) (fun _ _ _ h => h) ⟨Or.inl ⟨by rfl, ?_⟩, fun _ => rfl⟩ ?_
        rotate_left
        · intro w; go_simp; try with_reducible rfl
        go_simp
        refine wpAnyIn_take (i := 5) (v := ?_) rfl rfl (by kernel_rfl) (by kernel_rfl) (by kernel_rfl) (fun _ _ _ h => h) ⟨Or.inl ⟨by rfl, ?_⟩, fun _ => rfl⟩ ?_
        rotate_left
        · intro w; go_simp; try with_reducible rfl
        go_simp
        refine wpAnyIn_take (i := 6) (v := ?_) rfl rfl (by kernel_rfl) (by kernel_rfl) (by kernel_rfl) (fun _ _ _ h => h) ⟨Or.inl ⟨by rfl, ?_⟩, fun _ => rfl⟩ ?_
        rotate_left
        · intro w; go_simp; try with_reducible rfl
        go_simp
        refine wpAnyIn_take (i := 8) (v := ?_) rfl rfl (by kernel_rfl) (by kernel_rfl) (by kernel_rfl) (fun _ _ _ h => h) ⟨Or.inl ⟨by rfl, ?_⟩, fun _ => rfl⟩ ?_
        rotate_left
        · intro w; go_simp; try with_reducible rfl
        go_simp
        refine wpAnyIn_take (i := 11) (v := ?_) rfl rfl (by kernel_rfl) (by kernel_rfl) (by kernel_rfl) (fun _ _ _ h => h) ⟨Or.inl ⟨by rfl, ?_⟩, fun _ => rfl⟩ ?_
        rotate_left
        · intro w; go_simp; try with_reducible rfl
        go_simp
        refine wpAnyIn_take (i := 12) (v := ?_) rfl rfl (by kernel_rfl) (by kernel_rfl) (by kernel_rfl) (fun _ _ _ h => h) ⟨Or.inl ⟨by rfl, ?_⟩, fun _ => rfl⟩ ?_
        rotate_left
        · intro w; go_simp; try with_reducible rfl
        go_simp
        refine wpAnyIn_ready (rs := [7, 10]) (by kernel_rfl) (by simp) ?_
        refine AllReadyIn.cons rfl (fun K hK => ?_) (AllReadyIn.cons rfl (fun K hK => ?_) AllReadyIn.nil)
        · go_simp
          refine hK _ _ ?_
          clear hK K
          go_simp
          refine wpAnyIn_take (i := 9) (v := ?_) rfl rfl (by kernel_rfl) (by kernel_rfl) (by kernel_rfl) (fun _ _ _ h => h) ⟨Or.inl ⟨by rfl, ?_⟩, fun _ => rfl⟩ ?_
          rotate_left
          · intro w; go_simp; try with_reducible rfl
          go_simp
          refine wpAnyIn_ready (rs := [10]) (by kernel_rfl) (by simp) ?_
          refine AllReadyIn.cons rfl (fun K hK => ?_) AllReadyIn.nil
          go_simp
          refine hK _ _ ?_
          clear hK K
          go_simp
          refine wpAnyIn_take (i := 13) (v := ?_) rfl rfl (by kernel_rfl) (by kernel_rfl) (by kernel_rfl) (fun _ _ _ h => h) ⟨Or.inl ⟨by rfl, ?_⟩, fun _ => rfl⟩ ?_
          rotate_left
          · intro w; go_simp; try with_reducible rfl
          go_simp
          refine wpAnyIn_take (i := 14) (v := ?_) rfl rfl (by kernel_rfl) (by kernel_rfl) (by kernel_rfl) (fun _ _ _ h => h) ⟨Or.inl ⟨by rfl, ?_⟩, fun _ => rfl⟩ ?_
          rotate_left
          · intro w; go_simp; try with_reducible rfl
          go_simp
          refine wpAnyIn_ready (rs := [15]) (by kernel_rfl) (by simp) ?_
          refine AllReadyIn.cons rfl (fun K hK => ?_) AllReadyIn.nil
          go_simp
          gi_wp2_with (first | (refine (round_any HR.out).mono ?_; rintro e W4 ⟨b4, rfl, hyl4⟩) | (refine ⟨fun _ => hn1, ?_⟩; refine (round_any HR.out).mono ?_; rintro e W4 ⟨b4, rfl, hyl4⟩))
          clear hy
          refine wpAnyIn_take (i := 16) (v := ?_) rfl rfl (by kernel_rfl) (by kernel_rfl) (by kernel_rfl) (fun _ _ _ h => h) ⟨Or.inl ⟨by rfl, ?_⟩, fun _ => rfl⟩ ?_
          rotate_left
          · intro w; go_simp; try with_reducible rfl
          go_simp
          refine wpAnyIn_take (i := 17) (v := ?_) rfl rfl (by kernel_rfl) (by kernel_rfl) (by kernel_rfl) (fun _ _ _ h => h) ⟨Or.inl ⟨by rfl, ?_⟩, fun _ => rfl⟩ ?_
          rotate_left
          · intro w; go_simp; try with_reducible rfl
          go_simp
          refine wpAnyIn_done (by kernel_rfl) ?_ _
          go_simp
          gi_wp2
          · have hbf : b4 = false := by simpa using ‹(!b4) = true›
            rcases hyl4 with ⟨h, _⟩ | ⟨_, hJx⟩
            · rw [hbf] at h; cases h
            · refine bodyPost_ret (results_none rfl _ _ _) rfl ?_
              exact ⟨⟨_, rfl⟩, .inr ⟨_, trivial, hJx⟩⟩
          · have hbt4 : b4 = true := by simpa using ‹(!b4) = false›
            rcases hyl4 with ⟨_, hJ4, hb4⟩ | ⟨h, _⟩
            · have HJ4 := Lib.hid hJ4
              have HBW4 : Hid (Keep n₀ B W W4) := HBW.out.trans hb4
              clear hJ4 hb4 hbt4
              go_roundw
              case rel =>
                refine ⟨k + 1, by omega, by go_num, ?_, HBW4.out⟩
                rw [HS.out, ← List.append_assoc]
                exact HJ4.out
              case measure => simp [intOf]; omega
            · rw [hbt4] at h; cases h
        · go_simp
          refine hK _ _ ?_
          clear hK K
          go_simp
          refine wpAnyIn_take (i := 13) (v := ?_) rfl rfl (by kernel_rfl) (by kernel_rfl) (by kernel_rfl) (fun _ _ _ h => h) ⟨Or.inl ⟨by rfl, ?_⟩, fun _ => rfl⟩ ?_
          rotate_left
          · intro w; go_simp; try with_reducible rfl
          go_simp
          refine wpAnyIn_ready (rs := [7]) (by kernel_rfl) (by simp) ?_
          refine AllReadyIn.cons rfl (fun K hK => ?_) AllReadyIn.nil
          go_simp
          refine hK _ _ ?_
          clear hK K
          go_simp
          refine wpAnyIn_take (i := 9) (v := ?_) rfl rfl (by kernel_rfl) (by kernel_rfl) (by kernel_rfl) (fun _ _ _ h => h) ⟨Or.inl ⟨by rfl, ?_⟩, fun _ => rfl⟩ ?_
          rotate_left
          · intro w; go_simp; try with_reducible rfl
          go_simp
          refine wpAnyIn_take (i := 14) (v := ?_) rfl rfl (by kernel_rfl) (by kernel_rfl) (by kernel_rfl) (fun _ _ _ h => h) ⟨Or.inl ⟨by rfl, ?_⟩, fun _ => rfl⟩ ?_
          rotate_left
          · intro w; go_simp; try with_reducible rfl
          go_simp
          refine wpAnyIn_ready (rs := [15]) (by kernel_rfl) (by simp) ?_
          refine AllReadyIn.cons rfl (fun K hK => ?_) AllReadyIn.nil
          go_simp
          gi_wp2_with (first | (refine (round_any HR.out).mono ?_; rintro e W4 ⟨b4, rfl, hyl4⟩) | (refine ⟨fun _ => hn1, ?_⟩; refine (round_any HR.out).mono ?_; rintro e W4 ⟨b4, rfl, hyl4⟩))
          clear hy
          refine wpAnyIn_take (i := 16) (v := ?_) rfl rfl (by kernel_rfl) (by kernel_rfl) (by kernel_rfl) (fun _ _ _ h => h) ⟨Or.inl ⟨by rfl, ?_⟩, fun _ => rfl⟩ ?_
          rotate_left
          · intro w; go_simp; try with_reducible rfl
          go_simp
          refine wpAnyIn_take (i := 17) (v := ?_) rfl rfl (by kernel_rfl) (by kernel_rfl) (by kernel_rfl) (fun _ _ _ h => h) ⟨Or.inl ⟨by rfl, ?_⟩, fun _ => rfl⟩ ?_
          rotate_left
          · intro w; go_simp; try with_reducible rfl
          go_simp
          refine wpAnyIn_done (by kernel_rfl) ?_ _
          go_simp
          gi_wp2
          · have hbf : b4 = false := by simpa using ‹(!b4) = true›
            rcases hyl4 with ⟨h, _⟩ | ⟨_, hJx⟩
            · rw [hbf] at h; cases h
            · refine bodyPost_ret (results_none rfl _ _ _) rfl ?_
              exact ⟨⟨_, rfl⟩, .inr ⟨_, trivial, hJx⟩⟩
          · have hbt4 : b4 = true := by simpa using ‹(!b4) = false›
            rcases hyl4 with ⟨_, hJ4, hb4⟩ | ⟨h, _⟩
            · have HJ4 := Lib.hid hJ4
              have HBW4 : Hid (Keep n₀ B W W4) := HBW.out.trans hb4
              clear hJ4 hb4 hbt4
              go_roundw
              case rel =>
                refine ⟨k + 1, by omega, by go_num, ?_, HBW4.out⟩
                rw [HS.out, ← List.append_assoc]
                exact HJ4.out
              case measure => simp [intOf]; omega
            · rw [hbt4] at h; cases h
      · obtain ⟨pre, hx⟩ := hx
        refine wpAnyIn_take (i := 4) (v := ?_) rfl rfl (by kernel_rfl) (by kernel_rfl) (by kernel_rfl) (fun _ _ _ h => h) ⟨Or.inl ⟨by rfl, ?_⟩, fun _ => rfl⟩ ?_
        rotate_left
        · intro w; go_simp; try with_reducible rfl
        go_simp
        refine wpAnyIn_take (i := 5) (v := ?_) rfl rfl (by kernel_rfl) (by kernel_rfl) (by kernel_rfl) (fun _ _ _ h => h) ⟨Or.inl ⟨by rfl, ?_⟩, fun _ => rfl⟩ ?_
        rotate_left
        · intro w; go_simp; try with_reducible rfl
        go_simp
        refine wpAnyIn_take (i := 6) (v := undef) rfl rfl (by kernel_rfl) (by kernel_rfl) (by kernel_rfl) (fun _ _ _ h => h) ⟨Or.inr ⟨by rfl, rfl⟩, fun _ => rfl⟩ ?_
        go_simp
        refine wpAnyIn_take (i := 7) (v := undef) rfl rfl (by kernel_rfl) (by kernel_rfl) (by kernel_rfl) (fun _ _ _ h => h) ⟨Or.inr ⟨by rfl, rfl⟩, fun _ => rfl⟩ ?_
        go_simp
        refine wpAnyIn_take (i := 8) (v := undef) rfl rfl (by kernel_rfl) (by kernel_rfl) (by kernel_rfl) (fun _ _ _ h => h) ⟨Or.inr ⟨by rfl, rfl⟩, fun _ => rfl⟩ ?_
        go_simp
        refine wpAnyIn_take (i := 9) (v := undef) rfl rfl (by kernel_rfl) (by kernel_rfl) (by kernel_rfl) (fun _ _ _ h => h) ⟨Or.inr ⟨by rfl, rfl⟩, fun _ => rfl⟩ ?_
        go_simp
        refine wpAnyIn_take (i := 10) (v := undef) rfl rfl (by kernel_rfl) (by kernel_rfl) (by kernel_rfl) (fun _ _ _ h => h) ⟨Or.inr ⟨by rfl, rfl⟩, fun _ => rfl⟩ ?_
        go_simp
        refine wpAnyIn_take (i := 11) (v := undef) rfl rfl (by kernel_rfl) (by kernel_rfl) (by kernel_rfl) (fun _ _ _ h => h) ⟨Or.inr ⟨by rfl, rfl⟩, fun _ => rfl⟩ ?_
        go_simp
        refine wpAnyIn_take (i := 12) (v := undef) rfl rfl (by kernel_rfl) (by kernel_rfl) (by kernel_rfl) (fun _ _ _ h => h) ⟨Or.inr ⟨by rfl, rfl⟩, fun _ => rfl⟩ ?_
        go_simp
        refine wpAnyIn_take (i := 13) (v := undef) rfl rfl (by kernel_rfl) (by kernel_rfl) (by kernel_rfl) (fun _ _ _ h => h) ⟨Or.inr ⟨by rfl, rfl⟩, fun _ => rfl⟩ ?_
        go_simp
        refine wpAnyIn_take (i := 14) (v := undef) rfl rfl (by kernel_rfl) (by kernel_rfl) (by kernel_rfl) (fun _ _ _ h => h) ⟨Or.inr ⟨by rfl, rfl⟩, fun _ => rfl⟩ ?_
        go_simp
        refine wpAnyIn_take (i := 15) (v := undef) rfl rfl (by kernel_rfl) (by kernel_rfl) (by kernel_rfl) (fun _ _ _ h => h) ⟨Or.inr ⟨by rfl, rfl⟩, fun _ => rfl⟩ ?_
        go_simp
        refine wpAnyIn_take (i := 16) (v := undef) rfl rfl (by kernel_rfl) (by kernel_rfl) (by kernel_rfl) (fun _ _ _ h => h) ⟨Or.inr ⟨by rfl, rfl⟩, fun _ => rfl⟩ ?_
        go_simp
        refine wpAnyIn_take (i := 17) (v := ?_) rfl rfl (by kernel_rfl) (by kernel_rfl) (by kernel_rfl) (fun _ _ _ h => h) ⟨Or.inl ⟨by rfl, ?_⟩, fun _ => rfl⟩ ?_
        rotate_left
        · intro w; go_simp; try with_reducible rfl
        go_simp
        refine wpAnyIn_done (by kernel_rfl) ?_ _
        go_simp
        gi_wp2
        refine bodyPost_ret (results_none rfl _ _ _) rfl ?_
        exact ⟨⟨_, rfl⟩, .inr ⟨pre, trivial, hx⟩⟩
    · obtain rfl : k = s.size := by omega
      have HY := Lib.hid (ysAt_in s s.size (Nat.le_refl _) h8 l n₀ B N J Jx hJd hY (itTo s s.size) (n - 1) hn2 wr HJK.out (by omega))
      have HT : Hid (itTo s (s.size + 1) = itTo s s.size ++ itJ s s.size 7) := by unfold Hid; rw [itTo, itI, if_neg (by omega)]
      gi_wp2_with (gi_at_call 68; refine HY.out.mono ?_; rintro e W3 (⟨rfl, hJ3, hb3⟩ | ⟨rfl, hx⟩))
      · go_end0
        exact ⟨⟨_, rfl⟩, .inl ⟨_, rfl, by rw [HT.out]; exact hJ3⟩⟩
      · obtain ⟨pre, hx⟩ := hx
        go_end0
        exact ⟨⟨_, rfl⟩, .inr ⟨pre, trivial, hx⟩⟩
end Go.Proofs.YtjajbkbocbodfaaDoor
