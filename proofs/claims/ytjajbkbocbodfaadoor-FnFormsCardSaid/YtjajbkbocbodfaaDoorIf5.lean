/- The program's yieldSoundsAt inside a fence: what it hands to any loop's body. -/
import Derived.Test.YtjajbkbocbodfaaDoorNi
import Derived.Test.YtjajbkbocbodfaaDoorIf1
import Derived.Test.YtjajbkbocbodfaaDoorN5
import Derived.RangeFuncNested
import Derived.RangeFuncBound
import Derived.RangeFuncCalls
import Derived.RangeFuncLeaves
import Derived.RangeFuncBox
import Derived.Shelf.Abstract
import Derived.Shelf.RegionOpen
import Derived.Stop.RegionWithIn
import Derived.Sort.QuietIn
import Derived.OwnWalkIn
import Derived.TacticsInMore
import Derived.LoopNIn
import Derived.LoopIn
namespace Go.Proofs.YtjajbkbocbodfaaDoor
open Go.RowKit Go.Shelf Go.Sort M
attribute [local go_sem] Oper.semAt_some

theorem wide_fn (f : Nat) : Fence.wide.fn f = True := rfl
attribute [local simp, local go_sem] wide_fn
theorem room_wide' (k : Nat) : Fence.wide.room k := fun d h => by cases h
theorem round_any {m m' : Nat} {P : Program} {l : Nat} {f : FuncId} {tmps : Array Value} {assign body : Code} {w : World} {R : Ending → World → Prop}
    (h : RoundIn Fence.wide m P l f tmps assign body w R) : RoundIn Fence.wide m' P l f tmps assign body w R := ⟨h.1, fun c cs _ => h.2 c cs (room_wide' _)⟩
/-- What a round that goes on keeps: whatever lay below n₀, and block B. -/
structure Keep (n₀ B : Nat) (W W' : World) : Prop where
  below : Below n₀ W W'
  same : W'.heap[B]? = W.heap[B]?
theorem Keep.refl (n₀ B : Nat) (W : World) : Keep n₀ B W W := ⟨Below.refl _ _, rfl⟩
theorem Keep.trans {n₀ B : Nat} {X Y Z : World} (h : Keep n₀ B X Y) (k : Keep n₀ B Y Z) : Keep n₀ B X Z := ⟨h.below.trans k.below, k.same.trans h.same⟩
theorem Keep.of_drew {n₀ B : Nat} {X Y : World} (h : Keep n₀ B X.drew Y) : Keep n₀ B X Y := ⟨⟨h.below.os, h.below.tape, h.below.output, h.below.size, h.below.block⟩, h.same⟩
theorem Keep.drewN {n₀ B : Nat} {X Y : World} (h : Keep n₀ B X Y) (q : Nat) : Keep n₀ B X (Y.drewN q) := ⟨below_drewN h.below q, h.same⟩
/-- How a round may end: it goes on, and what lay lies; or it has said 'no more'. -/
def Yld (n₀ B : Nat) (J Jx : List ByteArray → World → Prop) (pre : List ByteArray) (x : ByteArray) (W : World) (b : Bool) (W' : World) : Prop :=
  (b = true ∧ J (pre ++ [x]) W' ∧ Keep n₀ B W W') ∨ (b = false ∧ Jx (pre ++ [x]) W')
/-- A loop's body that abides whatever the iterator yields. -/
def Takes (l n₀ B N : Nat) (J Jx : List ByteArray → World → Prop) : Prop :=
  ∀ (m : Nat) pre x W, J pre W → pre.length < N → YieldAt Fence.wide m Tryd.prog l #[.string x] W fun e W' => ∃ b, e = .returned (.bool b) ∧ Yld n₀ B J Jx pre x W b W'
def Drawn (J : List ByteArray → World → Prop) : Prop := ∀ pre W q, J pre W → J pre (W.drewN q)
set_option maxRecDepth 100000 in
set_option maxHeartbeats 2000000 in
theorem ysAt_in (s : ByteArray) (i : Nat) (hi : i ≤ s.size) (h8 : s.size < 8) (l n₀ B N : Nat) (J Jx : List ByteArray → World → Prop) (hJd : Drawn J) (hY : Takes l n₀ B N J Jx)
    (p : List ByteArray) (n : Nat) (hn : 1 ≤ n) (W : World) (hJ : J p W) (hN : p.length + 15 ≤ N) :
    CallsIn Fence.wide n Tryd.prog 68 #[.string s, .int .i64 i, .func (.yield l) #[] #[]] W fun e W' =>
      (e = .returned (.bool true) ∧ J (p ++ itJ s i 7) W' ∧ Keep n₀ B W W') ∨ (e = .returned (.bool false) ∧ ∃ pre, Jx pre W') := by
  refine callsIn_of_wp Tryd.func68 rfl trivial ?_ rfl
  simp only [Tryd.ntmps68, List.size_toArray, List.length_cons, List.length_nil, Nat.reduceAdd, Nat.reduceSub, Array.replicate_succ, Array.replicate_zero, List.push_toArray, List.append_toArray, List.nil_append, List.cons_append]
  gi_wp2
  gi_loopw [9] (fun x wr => ∃ (q : Nat), q ≤ 7 ∧ x = .int .i64 q ∧ J (p ++ itJ s i q) wr ∧ Keep n₀ B W wr) (fun x _ => 7 - (intOf x).toNat)
  case atStart => exact ⟨0, by omega, rfl, by rw [itJ, List.append_nil]; exact hJ, Keep.refl _ _ _⟩
  case round =>
    obtain ⟨q, hq, rfl, hJq, hbe⟩ := hrel
    have HJQ := Lib.hid hJq
    have HBE := Lib.hid hbe
    clear hJq hbe
    by_cases hql : q < 7
    · have hsl := snd_extract q hql
      have g1 : (0 : Int) ≤ (q : Int) := by omega
      have g2 : (q : Int) + 1 ≤ 7 := by omega
      have g3 : (q : Int) ≤ (q : Int) + 1 := by omega
      have hwk : IntKind.i64.wrap ((q : Int) + 1) = (q : Int) + 1 := IntWalk.i64_in _ (by omega)
      have hnk : ((q : Int) + 1).toNat = q + 1 := by omega
      have f1 : (0 : Int) ≤ (i : Int) := by omega
      have f2 : (i : Int) ≤ (s.size : Int) := by omega
      have hadd1 := str_add (s.extract 0 i) (sndB q) (by rw [sndB_sz, ex_size s 0 i hi]; omega)
      have hadd2 := str_add (s.extract 0 i ++ sndB q) (s.extract i s.size) (by rw [ByteArray.size_append, sndB_sz, ex_size s 0 i hi, ex_size s i s.size (Nat.le_refl _)]; omega)
      unfold sndB at hadd1 hadd2
      have hlen := itJ_len s i q
      obtain ⟨fn, tmps, assign, body, hy, hR⟩ := hY 0 (p ++ itJ s i q) (insB s i q) wr.drew (hJd _ wr 1 HJQ.out) (by rw [List.length_append]; omega)
      have HR := Lib.hid hR
      clear hR
      unfold insB sndB at hy
      gi_wp2
      gi_region_with (first | (refine (round_any HR.out).mono ?_; rintro e W3 ⟨b, rfl, hyl⟩) | (refine ⟨fun _ => hn, ?_⟩; refine (round_any HR.out).mono ?_; rintro e W3 ⟨b, rfl, hyl⟩))
      clear hy
      go_simp
      gi_wp2
      · have hbf : b = false := by simpa using ‹(!b) = true›
        rcases hyl with ⟨h, _⟩ | ⟨_, hJx⟩
        · rw [hbf] at h; cases h
        · go_ret
          exact .inr ⟨rfl, _, hJx⟩
      · have hbt : b = true := by simpa using ‹(!b) = false›
        rcases hyl with ⟨_, hJ3, hb3⟩ | ⟨h, _⟩
        · have HJ3 := Lib.hid hJ3
          have HB3 := Lib.hid hb3
          have HBW : Hid (Keep n₀ B W W3) := HBE.out.trans hb3.of_drew
          clear hJ3 hb3 HR hbt
          have hrd := snd_read q hql
          by_cases his : i < s.size
          · have f3 : (i : Int) < (s.size : Int) := by omega
            have f4 : (i : Int) + 1 ≤ (s.size : Int) := by omega
            have f5 : (0 : Int) ≤ (i : Int) + 1 := by omega
            have fwk : IntKind.i64.wrap ((i : Int) + 1) = (i : Int) + 1 := IntWalk.i64_in _ (by omega)
            have fnk : ((i : Int) + 1).toNat = i + 1 := by omega
            have hba := bAt_in s i his
            by_cases he : bAt s i = sndAt q
            · have HS : Hid (itJ s i (q + 1) = itJ s i q ++ [insB s i q]) := by unfold Hid; rw [itJ, itS_same he, List.append_nil]
              gi_quiet (fail)
              gi_wp2
              go_roundw
              case rel =>
                refine ⟨q + 1, by omega, by go_num, ?_, HBW.out.drewN _⟩
                rw [HS.out, ← List.append_assoc]
                exact hJd _ _ _ HJ3.out
              case measure => simp [intOf]; omega
            · have hbne : (bAt s i != sndAt q) = true := by simpa using he
              have HS : Hid (itJ s i (q + 1) = (itJ s i q ++ [insB s i q]) ++ [subB s i q]) := by unfold Hid; rw [itJ, itS_yes his he]
              have hadd3 := str_add (s.extract 0 i ++ sndB q) (s.extract (i + 1) s.size) (by rw [ByteArray.size_append, sndB_sz, ex_size s 0 i hi, ex_size s (i + 1) s.size (Nat.le_refl _)]; omega)
              unfold sndB at hadd3
              obtain ⟨fn, tmps, assign, body, hy, hR⟩ := hY 0 (p ++ itJ s i q ++ [insB s i q]) (subB s i q) W3.drew (hJd _ W3 1 HJ3.out) (by rw [List.length_append, List.length_append, List.length_singleton]; omega)
              have HR := Lib.hid hR
              clear hR
              unfold subB sndB at hy
              refine wpIn_region_any (by kernel_rfl) ?_
              try (change wpAnyIn _ _ _ _ _ _ _ _ _ (World.drew _))
              refine wpAnyIn_take (i := 0) (v := ?_) rfl rfl (by kernel_rfl) (by kernel_rfl) (by kernel_rfl) (fun _ _ _ h => h) ⟨Or.inl ⟨by rfl, ?_⟩, fun _ => rfl⟩ ?_
              rotate_left
              · intro w; go_simp; try with_reducible rfl
              go_simp
              refine wpAnyIn_take (i := 1) (v := ?_) rfl rfl (by kernel_rfl) (by kernel_rfl) (by kernel_rfl) (fun _ _ _ h => h) ⟨Or.inl ⟨by rfl, ?_⟩, fun _ => rfl⟩ ?_
              rotate_left
              · intro w; go_simp; try with_reducible rfl
              go_simp
              refine wpAnyIn_take (i := 2) (v := ?_) rfl rfl (by kernel_rfl) (by kernel_rfl) (by kernel_rfl) (fun _ _ _ h => h) ⟨Or.inl ⟨by rfl, ?_⟩, fun _ => rfl⟩ ?_
              rotate_left
              · intro w; go_simp; try with_reducible rfl
              go_simp
              refine wpAnyIn_take (i := 3) (v := ?_) rfl rfl (by kernel_rfl) (by kernel_rfl) (by kernel_rfl) (fun _ _ _ h => h) ⟨Or.inl ⟨by rfl, ?_⟩, fun _ => rfl⟩ ?_
              rotate_left
              · intro w; go_simp; try with_reducible rfl
              go_simp
              refine wpAnyIn_take (i := 4) (v := ?_) rfl rfl (by kernel_rfl) (by kernel_rfl) (by kernel_rfl) (fun _ _ _ h => h) ⟨Or.inl ⟨by rfl, ?_⟩, fun _ => rfl⟩ ?_
              rotate_left
              · intro w; go_simp; try with_reducible rfl
              go_simp
              refine wpAnyIn_take (i := 5) (v := ?_) rfl rfl (by kernel_rfl) (by kernel_rfl) (by kernel_rfl) (fun _ _ _ h => h) ⟨Or.inl ⟨by rfl, ?_⟩, fun _ => rfl⟩ ?_
              rotate_left
              · intro w; go_simp; try with_reducible rfl
              go_simp
              refine wpAnyIn_take (i := 6) (v := ?_) rfl rfl (by kernel_rfl) (by kernel_rfl) (by kernel_rfl) (fun _ _ _ h => h) ⟨Or.inl ⟨by rfl, ?_⟩, fun _ => rfl⟩ ?_
              rotate_left
              · intro w; go_simp; try with_reducible rfl
              go_simp
              refine wpAnyIn_take (i := 7) (v := ?_) rfl rfl (by kernel_rfl) (by kernel_rfl) (by kernel_rfl) (fun _ _ _ h => h) ⟨Or.inl ⟨by rfl, ?_⟩, fun _ => rfl⟩ ?_
              rotate_left
              · intro w; go_simp; try with_reducible rfl
              go_simp
              refine wpAnyIn_take (i := 8) (v := ?_) rfl rfl (by kernel_rfl) (by kernel_rfl) (by kernel_rfl) (fun _ _ _ h => h) ⟨Or.inl ⟨by rfl, ?_⟩, fun _ => rfl⟩ ?_
              rotate_left
              · intro w; go_simp; try with_reducible rfl
              go_simp
              refine wpAnyIn_take (i := 9) (v := ?_) rfl rfl (by kernel_rfl) (by kernel_rfl) (by kernel_rfl) (fun _ _ _ h => h) ⟨Or.inl ⟨by rfl, ?_⟩, fun _ => rfl⟩ ?_
              rotate_left
              · intro w; go_simp; try with_reducible rfl
              go_simp
              refine wpAnyIn_take (i := 10) (v := ?_) rfl rfl (by kernel_rfl) (by kernel_rfl) (by kernel_rfl) (fun _ _ _ h => h) ⟨Or.inl ⟨by rfl, ?_⟩, fun _ => rfl⟩ ?_
              rotate_left
              · intro w; go_simp; try with_reducible rfl
              go_simp
              refine wpAnyIn_take (i := 11) (v := ?_) rfl rfl (by kernel_rfl) (by kernel_rfl) (by kernel_rfl) (fun _ _ _ h => h) ⟨Or.inl ⟨by rfl, ?_⟩, fun _ => rfl⟩ ?_
              rotate_left
              · intro w; go_simp; try with_reducible rfl
              go_simp
              refine wpAnyIn_take (i := 12) (v := ?_) rfl rfl (by kernel_rfl) (by kernel_rfl) (by kernel_rfl) (fun _ _ _ h => h) ⟨Or.inl ⟨by rfl, ?_⟩, fun _ => rfl⟩ ?_
              rotate_left
              · intro w; go_simp; try with_reducible rfl
              go_simp
              refine wpAnyIn_take (i := 13) (v := ?_) rfl rfl (by kernel_rfl) (by kernel_rfl) (by kernel_rfl) (fun _ _ _ h => h) ⟨Or.inl ⟨by rfl, ?_⟩, fun _ => rfl⟩ ?_
              rotate_left
              · intro w; go_simp; try with_reducible rfl
              go_simp
              refine wpAnyIn_take (i := 14) (v := ?_) rfl rfl (by kernel_rfl) (by kernel_rfl) (by kernel_rfl) (fun _ _ _ h => h) ⟨Or.inl ⟨by rfl, ?_⟩, fun _ => rfl⟩ ?_
              rotate_left
              · intro w; go_simp; try with_reducible rfl
              go_simp
              refine wpAnyIn_take (i := 15) (v := ?_) rfl rfl (by kernel_rfl) (by kernel_rfl) (by kernel_rfl) (fun _ _ _ h => h) ⟨Or.inl ⟨by rfl, ?_⟩, fun _ => rfl⟩ ?_
              rotate_left
              · intro w; go_simp; try with_reducible rfl
              go_simp
              refine wpAnyIn_take (i := 16) (v := ?_) rfl rfl (by kernel_rfl) (by kernel_rfl) (by kernel_rfl) (fun _ _ _ h => h) ⟨Or.inl ⟨by rfl, ?_⟩, fun _ => rfl⟩ ?_
              rotate_left
              · intro w; go_simp; try with_reducible rfl
              go_simp
              refine wpAnyIn_take (i := 17) (v := ?_) rfl rfl (by kernel_rfl) (by kernel_rfl) (by kernel_rfl) (fun _ _ _ h => h) ⟨Or.inl ⟨by rfl, ?_⟩, fun _ => rfl⟩ ?_
              rotate_left
              · intro w; go_simp; try with_reducible rfl
              go_simp
              refine wpAnyIn_take (i := 18) (v := ?_) rfl rfl (by kernel_rfl) (by kernel_rfl) (by kernel_rfl) (fun _ _ _ h => h) ⟨Or.inl ⟨by rfl, ?_⟩, fun _ => rfl⟩ ?_
              rotate_left
              · intro w; go_simp; try with_reducible rfl
              go_simp
              refine wpAnyIn_take (i := 19) (v := ?_) rfl rfl (by kernel_rfl) (by kernel_rfl) (by kernel_rfl) (fun _ _ _ h => h) ⟨Or.inl ⟨by rfl, ?_⟩, fun _ => rfl⟩ ?_
              rotate_left
              · intro w; go_simp; try with_reducible rfl
              go_simp
              refine wpAnyIn_take (i := 20) (v := ?_) rfl rfl (by kernel_rfl) (by kernel_rfl) (by kernel_rfl) (fun _ _ _ h => h) ⟨Or.inl ⟨by rfl, ?_⟩, fun _ => rfl⟩ ?_
              rotate_left
              · intro w; go_simp; try with_reducible rfl
              go_simp
              refine wpAnyIn_take (i := 21) (v := ?_) rfl rfl (by kernel_rfl) (by kernel_rfl) (by kernel_rfl) (fun _ _ _ h => h) ⟨Or.inl ⟨by rfl, ?_⟩, fun _ => rfl⟩ ?_
              rotate_left
              · intro w; go_simp; try with_reducible rfl
              go_simp
              refine wpAnyIn_take (i := 22) (v := ?_) rfl rfl (by kernel_rfl) (by kernel_rfl) (by kernel_rfl) (fun _ _ _ h => h) ⟨Or.inl ⟨by rfl, ?_⟩, fun _ => rfl⟩ ?_
              rotate_left
              · intro w; go_simp; try with_reducible rfl
              go_simp
              refine wpAnyIn_take (i := 23) (v := ?_) rfl rfl (by kernel_rfl) (by kernel_rfl) (by kernel_rfl) (fun _ _ _ h => h) ⟨Or.inl ⟨by rfl, ?_⟩, fun _ => rfl⟩ ?_
              rotate_left
              · intro w; go_simp; try with_reducible rfl
              go_simp
              refine wpAnyIn_ready (rs := [24]) (by kernel_rfl) (by simp) ?_
              refine AllReadyIn.cons rfl (fun K hK => ?_) AllReadyIn.nil
              go_simp
              gi_wp2_with (first | (refine (round_any HR.out).mono ?_; rintro e W4 ⟨b4, rfl, hyl4⟩) | (refine ⟨fun _ => hn, ?_⟩; refine (round_any HR.out).mono ?_; rintro e W4 ⟨b4, rfl, hyl4⟩))
              clear hy
              refine wpAnyIn_take (i := 25) (v := ?_) rfl rfl (by kernel_rfl) (by kernel_rfl) (by kernel_rfl) (fun _ _ _ h => h) ⟨Or.inl ⟨by rfl, ?_⟩, fun _ => rfl⟩ ?_
              rotate_left
              · intro w; go_simp; try with_reducible rfl
              go_simp
              refine wpAnyIn_take (i := 26) (v := ?_) rfl rfl (by kernel_rfl) (by kernel_rfl) (by kernel_rfl) (fun _ _ _ h => h) ⟨Or.inl ⟨by rfl, ?_⟩, fun _ => rfl⟩ ?_
              rotate_left
              · intro w; go_simp; try with_reducible rfl
              go_simp
              refine wpAnyIn_done (by kernel_rfl) ?_ _
              go_simp
              gi_wp2
              · have hbf : b4 = false := by simpa using ‹(!b4) = true›
                rcases hyl4 with ⟨h, _⟩ | ⟨_, hJx⟩
                · rw [hbf] at h; cases h
                · go_ret
                  exact .inr ⟨rfl, _, hJx⟩
              · have hbt4 : b4 = true := by simpa using ‹(!b4) = false›
                rcases hyl4 with ⟨_, hJ4, hb4⟩ | ⟨h, _⟩
                · have HJ4 := Lib.hid hJ4
                  have HBW4 : Hid (Keep n₀ B W W4) := HBW.out.trans hb4.of_drew
                  clear hJ4 hb4 hbt4
                  go_roundw
                  case rel =>
                    refine ⟨q + 1, by omega, by go_num, ?_, HBW4.out⟩
                    rw [HS.out, ← List.append_assoc, ← List.append_assoc]
                    exact HJ4.out
                  case measure => simp [intOf]; omega
                · rw [hbt4] at h; cases h
          · have f3 : ¬ (i : Int) < (s.size : Int) := by omega
            have HS : Hid (itJ s i (q + 1) = itJ s i q ++ [insB s i q]) := by unfold Hid; rw [itJ, itS_end q his, List.append_nil]
            gi_quiet (fail)
            gi_wp2
            go_roundw
            case rel =>
              refine ⟨q + 1, by omega, by go_num, ?_, HBW.out.drewN _⟩
              rw [HS.out, ← List.append_assoc]
              exact hJd _ _ _ HJ3.out
            case measure => simp [intOf]; omega
        · rw [hbt] at h; cases h
    · obtain rfl : q = 7 := by omega
      gi_wp2
      go_ret
      exact .inl ⟨rfl, HJQ.out, HBE.out⟩
end Go.Proofs.YtjajbkbocbodfaaDoor
