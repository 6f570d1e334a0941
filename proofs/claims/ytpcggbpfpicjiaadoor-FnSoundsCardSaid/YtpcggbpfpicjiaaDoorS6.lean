/- The program's closures over sounds, and what soundsWhere makes of them. -/
import Derived.Test.YtpcggbpfpicjiaaDoorS5
import Derived.Test.YtpcggbpfpicjiaaDoorCls
import Derived.Test.YtpcggbpfpicjiaaDoorEq5
import Derived.Test.YtpcggbpfpicjiaaDoorApp
import Derived.Lib.QuietBelow
import Derived.BigQuiet
namespace Go.Proofs.YtpcggbpfpicjiaaDoor
open Go.RowKit Go.Sort M

theorem cell_kept {w w' : World} (hb : Below w.heap.size w w') {p : Addr} {v : Value} (h : w.cell? p = some v) : w'.cell? p = some v := (hb.cell (block_lt_of_cell h)).trans h
theorem own_kept {w w' : World} {base : Nat} {e : TypeId} {size : Nat} {v : Value} {n : Nat} {xs : List Value} (hb : Below w.heap.size w w') (h : w.ownsRow base e size v n xs) : w'.ownsRow base e size v n xs := by
  obtain ⟨h1, h2⟩ := h
  refine ⟨h1, ?_⟩
  rcases h2 with h2 | ⟨g, cap, cur, hv, hg, hh, r⟩
  · exact Or.inl h2
  · exact Or.inr ⟨g, cap, cur, hv, hg, (hb.block g (block_lt hh)).trans hh, r⟩
theorem below_quiet {B : Nat} {w wo : World} (h : Below B w wo) (hB : B ≤ wo.heap.size) (d : Nat) (os : Array Obj) : Below B w (grow (redrawn wo d) os) := h.trans ((below_regrown wo d os).mono hB)
theorem swClosure_any (x f : Int) (y : Bool) (a b : Nat) (w : World) (h0 : 0 ≤ x) (h1 : x < 256) (ha : w.cell? ⟨a, 0, none⟩ = some (.int .i64 f)) (hb : w.cell? ⟨b, 0, none⟩ = some (.bool y)) (hT : FeatTab w) :
    Calls Tryd.prog 47 #[.int .u8 x, .pointer (some ⟨a, 0, none⟩), .pointer (some ⟨b, 0, none⟩)] w fun e w' => e = .returned (.bool (hasF x f == y)) ∧ Below w.heap.size w w' := by
  have cH : ∀ n, Calls Tryd.prog 26 #[.int .u8 x, .int .i64 f] (w.drewN n) fun e w'' => e = .returned (.bool (hasF x f)) ∧ ∃ m, w'' = w.drewN m :=
    fun n => (implHas_any x f (w.drewN n) h0 h1 (feat_below hT (below_drewN (Below.refl _ _) n))).mono fun e w' h => ⟨h.1, n, h.2.symm⟩
  clear hT h0 h1
  go_enter Tryd.func47, Tryd.ntmps47
  go_wp2_with fail
  go_quiet (exact cH _)
  go_wp2
  go_ret
  exact ⟨rfl, below_drewN (Below.refl _ _) _⟩
theorem ncClosure_any (x : Int) (F : Nat → Int) (a : Nat) (w : World) (h0 : 0 ≤ x) (h1 : x < 256) (ha : w.heap[a]? = some (.cells (five F) 48 (0, 0))) (hT : FeatTab w) :
    Calls Tryd.prog 40 #[.int .u8 x, .pointer (some ⟨a, 0, none⟩)] w fun e w' => e = .returned (.bool (keepB F x)) ∧ Below w.heap.size w w' := by
  have cS : ∀ d os, Calls Tryd.prog 42 #[.int .u8 x] (grow (redrawn w d) os) fun e w'' => e = .returned (.agg (five (sg x))) ∧ ∃ p : Regrown, w'' = grow (redrawn w p.d) p.os :=
    fun d os => Calls.regrown_of (implSigns_any _ _ h0 h1 (feat_below hT (below_regrown w d os)))
  have cC : ∀ d os, Calls Tryd.prog 41 #[.agg (five F), .agg (five (sg x))] (grow (redrawn w d) os) fun e w'' => e = .returned (.agg (five (com F (sg x)))) ∧ ∃ p : Regrown, w'' = grow (redrawn w p.d) p.os :=
    fun d os => Calls.regrown_of (implCommon_any _ _ _)
  obtain ⟨⟨c0, c1, c2, c3, c4⟩, _⟩ := row_facts ha
  have g0 := fun d os => cell_regrown c0 d os
  have g1 := fun d os => cell_regrown c1 d os
  have g2 := fun d os => cell_regrown c2 d os
  have g3 := fun d os => cell_regrown c3 d os
  have g4 := fun d os => cell_regrown c4 d os
  clear hT h0 h1 ha
  have hg5 := eqGuard5
  have hq5 : ∀ w, (Op.equalIn 10000 48 (.agg #[.int .i64 (com F (sg x) 0), .int .i64 (com F (sg x) 1), .int .i64 (com F (sg x) 2), .int .i64 (com F (sg x) 3), .int .i64 (com F (sg x) 4)]) (.agg #[.int .i64 (F 0), .int .i64 (F 1), .int .i64 (F 2), .int .i64 (F 3), .int .i64 (F 4)])).run Tryd.prog w = .ok (eq5 (com F (sg x)) F) w := fun w => run_equalIn_five 9998 _ _ w
  unfold five at cS cC
  go_enter Tryd.func40, Tryd.ntmps40
  go_wp2_with fail
  refine wp_region_quiet_below (by kernel_rfl) (by kernel_rfl) ?_
  repeat (quiet_step (first | exact cS _ _ | exact cC _ _))
  refine wpQuiet_nil ?_
  intro _ hw'
  obtain ⟨⟨dq, osq⟩, hw''⟩ := hw'
  subst hw''
  go_wp2
  go_ret
  exact ⟨rfl, below_regrown w dq osq⟩
set_option maxHeartbeats 800000 in
theorem whereSw_any (f : Int) (y : Bool) (a b : Nat) (w : World) (ha : w.cell? ⟨a, 0, none⟩ = some (.int .i64 f)) (hb : w.cell? ⟨b, 0, none⟩ = some (.bool y)) (hT : FeatTab w) :
    Calls Tryd.prog 39 #[.func (.func 47) #[] #[.pointer (some ⟨a, 0, none⟩), .pointer (some ⟨b, 0, none⟩)]] w
      fun e w' => e = .returned (.string ⟨(clsL (fun x => hasF x f == y) 7).toArray⟩) ∧ Below w.heap.size w w' := by
  have HT := Lib.hid hT
  have HA := Lib.hid ha
  have HB := Lib.hid hb
  clear hT ha hb
  go_enter Tryd.func39, Tryd.ntmps39
  go_wp2
  go_loopw [3, 5] (fun v i wr => ∃ (j : Nat), j ≤ 7 ∧ i = .int .i64 j ∧ (wr.ownsRow w.heap.size 5 1 v (clsL (fun x => hasF x f == y) j).length (cellsB (clsL (fun x => hasF x f == y) j))) ∧ Below w.heap.size w wr) (fun _ i _ => 7 - (intOf i).toNat)
  case atStart => exact ⟨0, by omega, rfl, ⟨rfl, Or.inl ⟨rfl, rfl⟩⟩, Below.refl _ _⟩
  case round =>
    obtain ⟨j, hj, rfl, hown, hbe⟩ := hrel
    by_cases hlt : j < 7
    · have hr := snd_read j hlt
      have hs := sndAt_ge j
      have HX : Hid (0 ≤ ((⟨#[112, 116, 98, 100, 110, 97, 105]⟩ : ByteArray)[j].toNat : Int) ∧ ((⟨#[112, 116, 98, 100, 110, 97, 105]⟩ : ByteArray)[j].toNat : Int) < 256) := by unfold Hid; rw [hr]; exact hs
      have HR := Lib.hid hr
      clear hr hs
      go_wp2_with fail
      refine (swClosure_any _ f y a b wr HX.out.1 HX.out.2 (cell_kept hbe HA.out) (cell_kept hbe HB.out) (feat_below HT.out hbe)).mono ?_
      rintro e w1 ⟨rfl, hb1⟩
      have hown1 := own_kept hb1 hown
      go_wp2_with (at_builtin; refine wpList_append_byte _ rfl (.tmp 12) (.tmp 15) rfl w.heap.size _ _ _ rfl hown1 _ HX.out.1 HX.out.2 rfl (by have := clsL_len (fun x => hasF x f == y) j; omega) (Nat.le_trans hbe.size hb1.size) ?_; intro v' w' hown' hb')
      · have hp : (hasF (sndAt j) f == y) = true := by rw [← HR.out]; assumption
        go_roundw
        case rel =>
          refine ⟨j + 1, by omega, by go_num, ?_, hbe.trans ((hb1.mono hbe.size).trans hb')⟩
          rw [clsL_yes _ j hp, List.length_append, List.length_singleton, ← HR.out]
          exact hown'
        case measure => simp [intOf]; omega
      · have hp : (hasF (sndAt j) f == y) = false := by rw [← HR.out]; assumption
        go_roundw
        case rel =>
          refine ⟨j + 1, by omega, by go_num, ?_, hbe.trans (hb1.mono hbe.size)⟩
          rw [clsL_no _ j hp]
          exact hown1
        case measure => simp [intOf]; omega
    · obtain rfl : j = 7 := by omega
      have hcv := conv_own hown
      go_wp2
      go_ret
      exact ⟨rfl, hbe⟩
set_option maxHeartbeats 800000 in
theorem whereNc_any (F : Nat → Int) (a : Nat) (w : World) (ha : w.heap[a]? = some (.cells (five F) 48 (0, 0))) (hT : FeatTab w) :
    Calls Tryd.prog 39 #[.func (.func 40) #[] #[.pointer (some ⟨a, 0, none⟩)]] w
      fun e w' => e = .returned (.string ⟨(clsL (keepB F) 7).toArray⟩) ∧ Below w.heap.size w w' := by
  have HT := Lib.hid hT
  have HA := Lib.hid ha
  clear hT ha
  go_enter Tryd.func39, Tryd.ntmps39
  go_wp2
  go_loopw [3, 5] (fun v i wr => ∃ (j : Nat), j ≤ 7 ∧ i = .int .i64 j ∧ (wr.ownsRow w.heap.size 5 1 v (clsL (keepB F) j).length (cellsB (clsL (keepB F) j))) ∧ Below w.heap.size w wr) (fun _ i _ => 7 - (intOf i).toNat)
  case atStart => exact ⟨0, by omega, rfl, ⟨rfl, Or.inl ⟨rfl, rfl⟩⟩, Below.refl _ _⟩
  case round =>
    obtain ⟨j, hj, rfl, hown, hbe⟩ := hrel
    by_cases hlt : j < 7
    · have hr := snd_read j hlt
      have hs := sndAt_ge j
      have HX : Hid (0 ≤ ((⟨#[112, 116, 98, 100, 110, 97, 105]⟩ : ByteArray)[j].toNat : Int) ∧ ((⟨#[112, 116, 98, 100, 110, 97, 105]⟩ : ByteArray)[j].toNat : Int) < 256) := by unfold Hid; rw [hr]; exact hs
      have HR := Lib.hid hr
      clear hr hs
      go_wp2_with fail
      refine (ncClosure_any _ F a wr HX.out.1 HX.out.2 ((hbe.block a (block_lt HA.out)).trans HA.out) (feat_below HT.out hbe)).mono ?_
      rintro e w1 ⟨rfl, hb1⟩
      have hown1 := own_kept hb1 hown
      go_wp2_with (at_builtin; refine wpList_append_byte _ rfl (.tmp 12) (.tmp 15) rfl w.heap.size _ _ _ rfl hown1 _ HX.out.1 HX.out.2 rfl (by have := clsL_len (keepB F) j; omega) (Nat.le_trans hbe.size hb1.size) ?_; intro v' w' hown' hb')
      · have hp : keepB F (sndAt j) = true := by rw [← HR.out]; assumption
        go_roundw
        case rel =>
          refine ⟨j + 1, by omega, by go_num, ?_, hbe.trans ((hb1.mono hbe.size).trans hb')⟩
          rw [clsL_yes _ j hp, List.length_append, List.length_singleton, ← HR.out]
          exact hown'
        case measure => simp [intOf]; omega
      · have hp : keepB F (sndAt j) = false := by rw [← HR.out]; assumption
        go_roundw
        case rel =>
          refine ⟨j + 1, by omega, by go_num, ?_, hbe.trans (hb1.mono hbe.size)⟩
          rw [clsL_no _ j hp]
          exact hown1
        case measure => simp [intOf]; omega
    · obtain rfl : j = 7 := by omega
      have hcv := conv_own hown
      go_wp2
      go_ret
      exact ⟨rfl, hbe⟩
def swL (f : Int) (y : Bool) : List UInt8 := if 0 ≤ f ∧ f < 5 then clsL (fun x => hasF x f == y) 7 else []
theorem swL_in {f : Int} (y : Bool) (h : 0 ≤ f ∧ f < 5) : swL f y = clsL (fun x => hasF x f == y) 7 := if_pos h
theorem swL_out {f : Int} (y : Bool) (h : ¬ (0 ≤ f ∧ f < 5)) : swL f y = [] := if_neg h
theorem implSw_any (f : Int) (y : Bool) (w : World) (hT : FeatTab w) :
    Calls Tryd.prog 28 #[.int .i64 f, .bool y] w fun e w' => e = .returned (.string ⟨(swL f y).toArray⟩) ∧ Below w.heap.size w w' := by
  have HT := Lib.hid hT
  clear hT
  have hmf : ∀ (fn : Fn) (first cap : Array Value) (w : World), (Instr.makeFunc fn first cap).run Tryd.prog w = .ok (.func fn first cap) w := fun _ _ _ _ => rfl
  by_cases h : 0 ≤ f ∧ f < 5
  · have HE := Lib.hid (swL_in y h)
    have hb : (decide (0 ≤ f) && decide (f < 5)) = true := by simp; omega
    clear h
    go_enter Tryd.func28, Tryd.ntmps28
    go_wp2_with fail
    refine (isFeature_any _ _).mono ?_
    rintro e w1 ⟨rfl, rfl⟩
    go_wp2_with fail
    refine (whereSw_any f y _ _ _ (by simp [go_sem]) (by simp [go_sem]) (feat_below HT.out (((Below.refl _ _).alloc (Nat.le_refl _) _).alloc ((Below.refl _ _).alloc (Nat.le_refl _) _).size _))).mono ?_
    rintro e w1 ⟨rfl, hb1⟩
    go_wp2
    go_ret
    exact ⟨ret_str (by rw [HE.out]), (((Below.refl _ _).alloc (Nat.le_refl _) _).alloc ((Below.refl _ _).alloc (Nat.le_refl _) _).size _).trans (hb1.mono (by simp; omega))⟩
  · have HE := Lib.hid (swL_out y h)
    have hb : (decide (0 ≤ f) && decide (f < 5)) = false := by simp; omega
    clear h
    go_enter Tryd.func28, Tryd.ntmps28
    go_wp2_with fail
    refine (isFeature_any _ _).mono ?_
    rintro e w1 ⟨rfl, rfl⟩
    go_wp2
    go_ret
    exact ⟨ret_str (by rw [HE.out]), ((Below.refl _ _).alloc (Nat.le_refl _) _).alloc ((Below.refl _ _).alloc (Nat.le_refl _) _).size _⟩
def ncL (l : List UInt8) : List UInt8 := if okCls l then clsL (keepB (shv l)) 7 else []
theorem ncL_in {l : List UInt8} (h : okCls l = true) : ncL l = clsL (keepB (shc l)) 7 := by
  have : shc l = shv l := by funext k; unfold shc; rw [if_pos h]
  unfold ncL; rw [if_pos h, this]
theorem ncL_out {l : List UInt8} (h : okCls l = false) : ncL l = [] := by unfold ncL; rw [if_neg (by simp [h])]
theorem implNc_any (s : ByteArray) (w : World) (hT : FeatTab w) :
    Calls Tryd.prog 17 #[.string s] w fun e w' => e = .returned (.string ⟨(ncL s.data.toList).toArray⟩) ∧ Below w.heap.size w w' := by
  have HT := Lib.hid hT
  clear hT
  have hmf : ∀ (fn : Fn) (first cap : Array Value) (w : World), (Instr.makeFunc fn first cap).run Tryd.prog w = .ok (.func fn first cap) w := fun _ _ _ _ => rfl
  go_enter Tryd.func17, Tryd.ntmps17
  go_wp2_with fail
  refine (implShared_any s _ HT.out).mono ?_
  rintro e w1 ⟨rfl, hb1⟩
  unfold five
  have H1 := Lib.hid hb1
  clear hb1
  by_cases hok : okCls s.data.toList = true
  · have HE := Lib.hid (ncL_in hok)
    go_wp2_with fail
    refine (whereNc_any (shc s.data.toList) _ _ (heap_alloc_new _ _) (feat_below HT.out (H1.out.alloc H1.out.size _))).mono ?_
    rintro e w2 ⟨rfl, hb2⟩
    go_wp2
    go_ret
    exact ⟨ret_str (by rw [HE.out]), (H1.out.alloc H1.out.size _).trans (hb2.mono (by have := H1.out.size; simp; omega))⟩
  · have hok : okCls s.data.toList = false := by simpa using hok
    have HE := Lib.hid (ncL_out hok)
    go_wp2
    go_ret
    exact ⟨ret_str (by rw [HE.out]), H1.out.alloc H1.out.size _⟩
theorem implInc_any (s : ByteArray) (w : World) (hT : FeatTab w) :
    Calls Tryd.prog 19 #[.string s] w fun e w' => e = .returned (.bool (!s.toList.isEmpty && (ncL s.data.toList == s.toList))) ∧ Below w.heap.size w w' := by
  have HT := Lib.hid hT
  clear hT
  go_enter Tryd.func19, Tryd.ntmps19
  go_wp2_with fail
  · rename_i hnil
    go_ret
    exact ⟨ret_bool (by simp [hnil]), Below.refl _ _⟩
  · refine (implNc_any s _ HT.out).mono ?_
    rintro e w1 ⟨rfl, hb1⟩
    have hne : s.toList.isEmpty = false := by simpa using ‹¬ s.toList = []›
    have H1 := Lib.hid hb1
    clear hb1
    go_wp2
    go_ret
    exact ⟨ret_bool (by rw [hne]; simp), H1.out⟩
end Go.Proofs.YtpcggbpfpicjiaaDoor
