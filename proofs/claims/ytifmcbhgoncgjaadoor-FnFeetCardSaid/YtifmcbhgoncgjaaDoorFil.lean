/- The program's filling, and FootingsOf: what it answers. -/
import Derived.Test.YtifmcbhgoncgjaaDoorFst
import Derived.Deep.RegionLaw
namespace Go.Proofs.YtifmcbhgoncgjaaDoor
open Go.RowKit
set_option linter.unusedVariables false
set_option linter.unusedSimpArgs false

theorem oneFoot {s : Bool} {w : World} {ys : List Value} {x : DFoot} {F : Addr → Prop} (h : rFoot.rd s w ys x F) : ∀ u ∈ ys, u.oneCell' = true := flatFoot.one h
theorem oneFooting {s : Bool} {w : World} {ys : List Value} {x : DFooting} {F : Addr → Prop} (h : rFooting.rd s w ys x F) : ∀ u ∈ ys, u.oneCell' = true := by
  obtain ⟨v, rfl, _, hr, _⟩ := rFooting_rd h
  obtain ⟨A, cap, rfl⟩ := hr.form
  intro u hu
  simp at hu
  rcases hu with rfl | rfl | rfl <;> rfl
theorem OwnRd.form {α : Type} {E : Rep α} {e : TypeId} {s : Bool} {base : Nat} {w : World} {v : Value} {l : List α} {G : Addr → Prop} (h : OwnRd E e s base w v l G) : ∃ A cap, v = .slice A l.length cap := by
  obtain ⟨c, _, ho, _⟩ := h
  rcases ho.2 with ⟨h1, h2⟩ | ⟨g, cap, _, h1, _⟩
  · exact ⟨none, 0, by rw [h1, h2]⟩
  · exact ⟨_, cap, h1⟩
theorem results_none {fn : Func} (h : fn.results = #[]) (tmps : Array Value) (P : Program) (w : World) : (results fn tmps).run P w = .ok (.tuple #[]) w := by
  simp [results, h]
/-- The list's growing as an operation of a region that draws. -/
theorem step_laid {base b2 b3 b4 N : Nat} {w : World} {u v : Value} {L : List DFooting} {G : Addr → Prop} {r : List DFoot} (h0 : FSt base b2 b3 b4 N w u L G v r) {ops : Array Oper} {o : Oper} {a : Act} {K : Act → World → Prop} {Q : Exit → Act → World → Prop} {Z : Prop} (W : World) (hgd : o.guard = none) (sl y : Operand)
    (ho : o.op = .call { callee := .builtin .append, args := #[sl, y], argTypes := #[26, 26] }) (hW : Below w.heap.size w W) (A : Option Addr) (n cap : Nat) (m : List DFooting) (hrow : RowRd rFooting true W (.slice A n cap) m (fun a => w.heap.size ≤ a.block ∧ a.block < W.heap.size))
    (hn : L.length ≤ 1000000) (hm : m.length ≤ 1000000) (hs : a.eval sl = u) (hy : a.eval y = .slice A n cap)
    (h : ∀ v' w', InC w' b3 #[u] 26 → FTo base b2 b3 b4 N w u G v r v' (L ++ m) (w'.setCell ⟨b3, 0, none⟩ v') → K (a.put o.dst v') w') :
    if Region.wanted o (yielded ops a.tmps) = true then Oper.wp Tryd.prog o a W K Q else Z := by
  obtain ⟨i1, hi, hz0, hz1, hz2⟩ := info_parts Tryd.infoFt
  have hst := h0.kept hW
  have hsz := hW.size
  refine step_append_rows rFooting W hgd sl y 26 31 i1 (.agg #[.int .i64 0, .slice none 0 0, .int .i64 0]) 40 ho Tryd.underlying26 hi hz0 hz1 hz2 rfl (by decide) oneFooting true base u L G hst.own A n cap m _ hrow (fun p hp => ⟨hp.2, fun e => ?_⟩) (fun _ p hp hg => ?_) hn hm (by omega) hst.lo hs hy ?_
  · have := (OwnRd.lt h0.own _ e).2; omega
  · have := (h0.far p hg).2.1; omega
  · intro v' w' hown _ hb hk hmv
    exact h v' w' (hst.bl.keptB hb hst.lt.2.1) (FTo.laid h0 (F := fun a => w.heap.size ≤ a.block ∧ a.block < W.heap.size) (fun a ha => ha) hW hown hb hk hmv)
/-- A foot put behind the feet, as an operation of a region that draws. -/
theorem step_push {base b2 b3 b4 N : Nat} {w : World} {u v : Value} {L : List DFooting} {G : Addr → Prop} {r : List DFoot} (h0 : FSt base b2 b3 b4 N w u L G v r) {ops : Array Oper} {o : Oper} {a : Act} {K : Act → World → Prop} {Q : Exit → Act → World → Prop} {Z : Prop} (W : World) (hgd : o.guard = none) (sl y : Operand)
    (ho : o.op = .call { callee := .builtin .append, args := #[sl, y], argTypes := #[29, 29] }) (x z h : Nat) (hx : x ≤ 1000) (hz : z ≤ 1000) (hh : h ≤ 1000) (hW : Below (w.heap.size + 1) (w.alloc (.cells #[.int .i64 (x : Int), .int .i64 (z : Int), .int .i64 (h : Int)] 53)) W)
    (hn : r.length ≤ 1000000) (hs : a.eval sl = v) (hy : a.eval y = .slice (some ⟨w.heap.size, 0, none⟩) 1 1)
    (hK : ∀ v' w', FSt base b2 b3 b4 N w' u L G v' (r ++ [mkF x z h]) → (∀ u2 L2 w3, FTo base b2 b3 b4 N w' u G v' (r ++ [mkF x z h]) u2 L2 w3 → FTo base b2 b3 b4 N w u G v r u2 L2 w3) → K (a.put o.dst v') w') :
    if Region.wanted o (yielded ops a.tmps) = true then Oper.wp Tryd.prog o a W K Q else Z := by
  obtain ⟨i3, hi3, qz3, qz4, qz5⟩ := info_parts Tryd.infoFo
  have hb0 : Below w.heap.size w (w.alloc (.cells #[.int .i64 (x : Int), .int .i64 (z : Int), .int .i64 (h : Int)] 53)) := (Below.refl _ _).alloc (Nat.le_refl _) _
  have hb1 : Below w.heap.size w W := hb0.trans (hW.mono (by omega))
  have hst := h0.kept hb1
  have hsz : w.heap.size + 1 ≤ W.heap.size := Nat.le_trans (by simp) hW.size
  have hx1 : rFoot.rd true w [.int .i64 (x : Int), .int .i64 (z : Int), .int .i64 (h : Int)] (mkF x z h) (fun _ => False) := rFoot_mk (x := mkF x z h) (by unfold I64 mkF; simp only; omega) (by unfold I64 mkF; simp only; omega) (by unfold I64 mkF; simp only; omega)
  have hrow : RowRd rFoot true W (.slice (some ⟨w.heap.size, 0, none⟩) 1 1) [mkF x z h] (fun a => False ∨ a.block = w.heap.size) := (RowRd.one (e := 53) w hx1 (fun a ha => ha.elim)).kept (by simpa using hW)
  refine step_append_rows rFoot W hgd sl y 29 53 i3 (.agg #[.int .i64 0, .int .i64 0, .int .i64 0]) 24 ho Tryd.underlying29 hi3 qz3 qz4 qz5 rfl (by decide) oneFoot true base v r _ hst.feet (some ⟨w.heap.size, 0, none⟩) 1 1 [mkF x z h] _ hrow (fun p hp => ⟨?_, fun e => ?_⟩) (fun _ p hp hg => hg.elim) hn (by simp) (by omega) hst.lo hs hy ?_
  · have := hp.resolve_left id; omega
  · have := (OwnRd.lt h0.feet _ e).2; have := hp.resolve_left id; omega
  · intro v' w' hown hold hb hk hmv
    have hown' := hown.flat flatFoot
    exact hK v' w' (hst.push hown' hb hk hmv) fun u2 L2 w3 hc => (FTo.foot hst hown' hold hb hk hmv hc).pre h0 hb1
def FillPost (base b2 b3 b4 N : Nat) (w : World) (u : Value) (G : Addr → Prop) (v : Value) (r : List DFoot) (L' : List DFooting) (e : Ending) (w' : World) : Prop := e = .returned (.tuple #[]) ∧ ∃ u', FTo base b2 b3 b4 N w u G v r u' L' w'
set_option maxHeartbeats 4000000 in
theorem implFill_zero (base b2 b3 b4 N : Nat) (hN : N ≤ 4) (v u : Value) (r : List DFoot) (L : List DFooting) (G : Addr → Prop) (w : World) (hr : r.length ≤ 4) (hL : L.length ≤ 5000) (hst : FSt base b2 b3 b4 N w u L G v r) :
    Calls Tryd.prog 35 #[.int .i64 (N : Int), v, .pointer (some ⟨b2, 0, none⟩), .pointer (some ⟨b3, 0, none⟩), .pointer (some ⟨b4, 0, none⟩)] w (FillPost base b2 b3 b4 N w u G v r (L ++ fillL N r 0 N)) := by
  rw [fillL_zero]
  have HE : Hid (∀ W, Below w.heap.size w W → Calls Tryd.prog 36 #[.int .i64 (N : Int), v] W (OwnPost rFooting (footR N r r.length) W)) := fun W hW => implEach_any N v r _ W (by omega) (by omega) ((hst.feet.row (by omega)).weak.kept hW)
  have HM : Hid ((footR N r r.length).length ≤ 1000000) := by unfold Hid footR; rw [List.length_map, List.length_range]; omega
  have HL : Hid (L.length ≤ 1000000) := by unfold Hid; omega
  have HST := Lib.hid hst
  have c2 := hst.bn.cell 0 rfl
  have c3 := hst.bl.cell 0 rfl
  clear hst hr hL
  generalize footR N r r.length = M at *
  go_enter Tryd.func35, Tryd.ntmps35
  go_wp2_with fail
  go_region_law (first | (go_simp; go_at_call 36; refine (HE.out _ ?_).mono ?_; (first | exact (Below.refl _ w).drew.drew | exact (Below.refl _ w).drew | exact Below.refl _ w); rintro e w3 ⟨ue, rfl, hrow3, hb3⟩; obtain ⟨Ae, ce, rfl⟩ := hrow3.form; have HB3 : Hid (Below w.heap.size w w3) := (by first | exact (Below.refl _ w).drew.drew.trans hb3 | exact (Below.refl _ w).drew.trans hb3 | exact hb3); have HR3 : Hid (RowRd rFooting true w3 (.slice Ae M.length ce) M (fun a => w.heap.size ≤ a.block ∧ a.block < w3.heap.size)) := hrow3.tight; have q3 := (HST.out.kept HB3.out).bl.cell 0 rfl; clear hrow3 hb3) | (refine step_laid HST.out _ rfl (.tmp 12) (.tmp 15) rfl HB3.out _ _ _ _ HR3.out HL.out HM.out (by simp [Act.eval]) (by simp [Act.eval]) ?_; intro v4 w4 hin4 hto4; obtain ⟨A4, cp4, rfl⟩ := OwnRd.form hto4.st.own; have c4 := hin4.cell 0 rfl; have f4 := hin4.free 0; have HTO := Lib.hid hto4; clear hin4 hto4))
  all_goals
    go_wp2
    refine bodyPost_ret (results_none rfl _ _ _) rfl ?_
    refine ⟨rfl, .slice A4 (L.length + M.length) cp4, ?_⟩
    have h := HTO.out
    rw [List.length_append] at h
    exact h
/-- The filling, at d syllables that are left. -/
def FillAt (base b2 b3 b4 N d : Nat) : Prop := ∀ (a : Nat) (i : Int) (v u : Value) (r : List DFoot) (L : List DFooting) (G : Addr → Prop) (w : World), a + d = N → i = a → r.length + d ≤ 4 → L.length ≤ 1000 * (5 - d) → FSt base b2 b3 b4 N w u L G v r →
    Calls Tryd.prog 35 #[.int .i64 i, v, .pointer (some ⟨b2, 0, none⟩), .pointer (some ⟨b3, 0, none⟩), .pointer (some ⟨b4, 0, none⟩)] w (FillPost base b2 b3 b4 N w u G v r (L ++ fillL N r d a))
set_option maxHeartbeats 8000000 in
theorem implFill_any (base b2 b3 b4 N : Nat) (hN : N ≤ 4) : ∀ d, FillAt base b2 b3 b4 N d := by
  intro d
  induction d using Nat.strongRecOn with
  | ind d ih =>
  intro a i v u r L G w had hi hrd hLd hst
  subst hi
  rcases Nat.eq_zero_or_pos d with rfl | hd
  · obtain rfl : a = N := by omega
    exact implFill_zero base b2 b3 b4 a hN v u r L G w (by omega) (by omega) hst
  have HIH : Hid (∀ z, 1 ≤ z → z ≤ d → FillAt base b2 b3 b4 N (d - z)) := fun z h1 h2 => ih (d - z) (by omega)
  clear ih
  have HFP : Hid (∀ z, z ≤ 2 → z ≤ d → (fP N r d a z).length ≤ 176 + z * 352) := fun z h1 h2 => fP_len hd hrd z h1 h2
  have HFS : Hid (∀ z h, 1 ≤ z → z ≤ d → h ≤ z → (fS N r d a z h).length ≤ h * 176) := fun z h h1 h2 _ => fS_len hrd h1 h2 h
  have HEND : Hid (fP N r d a (min 2 d) = fillL N r d a) := fP_end hd
  have HP0 : Hid (fP N r d a 0 = fillL N r (d - 1) (a + 1)) := rfl
  have HPS : Hid (∀ z, fP N r d a (z + 1) = fP N r d a z ++ fS N r d a (z + 1) (z + 1)) := fun z => rfl
  have HS0 : Hid (∀ z, fS N r d a z 0 = []) := fun z => rfl
  have HSS : Hid (∀ z h, fS N r d a z (h + 1) = fS N r d a z h ++ fillL N (r ++ [mkF a z h]) (d - z) (a + z)) := fun z h => rfl
  have HST := Lib.hid hst
  have HRD : Hid (r.length + d ≤ 4) := hrd
  have HLD : Hid (L.length ≤ 1000 * (5 - d)) := hLd
  have HAD : Hid (a + d = N) := had
  have c2 := hst.bn.cell 0 rfl
  have c4 := hst.bf.cell 0 rfl
  have hne : ¬ (a : Int) = (N : Int) := by omega
  have hw1 : IntKind.i64.wrap ((a : Int) + 1) = (a : Int) + 1 := IntWalk.i64_in _ (by omega)
  have hw3 : IntKind.i64.wrap ((N : Int) - (a : Int)) = (d : Int) := by rw [IntWalk.i64_in _ (by omega)]; omega
  clear hst hrd hLd had
  generalize fillL N r d a = FL at *
  unfold fillV at c4
  go_enter Tryd.func35, Tryd.ntmps35
  go_wp2_with fail
  refine (HIH.out 1 (by omega) hd (a + 1) _ v u r L G w (by have := HAD.out; omega) (by simp) (by have := HRD.out; omega) (by have := HLD.out; omega) HST.out).mono ?_
  rintro e w1 ⟨rfl, u1, hto1⟩
  rw [← HP0.out] at hto1
  have HTO1 := Lib.hid hto1
  clear hto1 c2 c4
  go_wp2
  go_loopw [7] (fun s w5 => ∃ (z : Nat), z ≤ min 2 d ∧ s = .int .i64 ((z : Int) + 1) ∧ ∃ u5, FTo base b2 b3 b4 N w u G v r u5 (L ++ fP N r d a z) w5) (fun s _ => 4 - (intOf s).toNat)
  case atStart => exact ⟨0, by omega, rfl, u1, HTO1.out⟩
  case round =>
    obtain ⟨z, hz, rfl, u5, hto5⟩ := hrel
    have HTO5 := Lib.hid hto5
    have c2 := hto5.st.bn.cell 0 rfl
    clear hto5
    by_cases hzd : z < min 2 d
    · have hz2 : z + 1 ≤ d ∧ z + 1 ≤ 2 := by omega
      have hzi : (z : Int) + 1 ≤ 2 := by omega
      have hzj : (z : Int) + 1 ≤ (d : Int) := by omega
      have HZ2 := Lib.hid hz2
      have hs0 := HS0.out (z + 1)
      have HTO6 : Hid (FTo base b2 b3 b4 N w u G v r u5 (L ++ fP N r d a z ++ fS N r d a (z + 1) 0) wr) := by unfold Hid; rw [hs0, List.append_nil]; exact HTO5.out
      clear hs0 HTO5
      go_wp2
      all_goals
        go_loopw [31] (fun s w5 => ∃ (h : Nat), h ≤ z + 1 ∧ s = .int .i64 h ∧ ∃ u7, FTo base b2 b3 b4 N w u G v r u7 (L ++ fP N r d a z ++ fS N r d a (z + 1) h) w5) (fun s _ => z + 1 - (intOf s).toNat)
        case atStart => exact ⟨0, by omega, rfl, u5, HTO6.out⟩
        case round =>
          clear HTO6 c2
          obtain ⟨h, hh, rfl, u7, hto7⟩ := hrel
          have hs7 := hto7.st
          have HTO7 := Lib.hid hto7
          have HS7 := Lib.hid hs7
          by_cases hhl : h < z + 1
          · have c4 := hs7.bf.cell 0 rfl
            have c4o : ∀ o, (wr.alloc o).cell? ⟨b4, 0, none⟩ = some (fillV b2 b3 b4) := fun o => (((Below.refl wr.heap.size wr).alloc (Nat.le_refl _) o).cell (block_lt_of_cell c4)).trans c4
            have hw2 : IntKind.i64.wrap ((a : Int) + ((z : Int) + 1)) = (a : Int) + ((z : Int) + 1) := by
              have := HAD.out
              exact IntWalk.i64_in _ (by omega)
            have HR4 : Hid (r.length ≤ 1000000) := by unfold Hid; have := HRD.out; omega
            have HSM : Hid (a ≤ 1000 ∧ z + 1 ≤ 1000 ∧ h ≤ 1000) := by unfold Hid; have := HAD.out; omega
            have HLL : Hid ((L ++ fP N r d a z ++ fS N r d a (z + 1) h).length ≤ 1000 * (5 - (d - (z + 1)))) := by
              unfold Hid
              rw [List.length_append, List.length_append]
              have h1 := HFP.out z (by omega) (by omega)
              have h2 := HFS.out (z + 1) h (by omega) HZ2.out.1 (by omega)
              have h3 := HLD.out
              have h4 : h * 176 ≤ 352 := by omega
              have h5 : z * 352 ≤ 704 := by omega
              have h6 := HAD.out
              have h7 := HZ2.out
              omega
            have HCA : Hid (∀ (v4 : Value) (w4 : World) (G7 : Addr → Prop), FSt base b2 b3 b4 N w4 u7 (L ++ fP N r d a z ++ fS N r d a (z + 1) h) G7 v4 (r ++ [mkF a (z + 1) h]) → Calls Tryd.prog 35 #[.int .i64 ((a : Int) + ((z : Int) + 1)), v4, .pointer (some ⟨b2, 0, none⟩), .pointer (some ⟨b3, 0, none⟩), .pointer (some ⟨b4, 0, none⟩)] w4
                (FillPost base b2 b3 b4 N w4 u7 G7 v4 (r ++ [mkF a (z + 1) h]) (L ++ fP N r d a z ++ fS N r d a (z + 1) (h + 1)))) := fun v4 w4 G7 h4 => by
              rw [HSS.out, ← List.append_assoc]
              exact HIH.out (z + 1) (by omega) HZ2.out.1 (a + (z + 1)) _ v4 u7 _ _ G7 w4 (by have := HAD.out; have := HZ2.out; omega) (by simp) (by have := HRD.out; have := HZ2.out; rw [List.length_append, List.length_singleton]; omega) HLL.out h4
            generalize hL7 : L ++ fP N r d a z ++ fS N r d a (z + 1) h = L7 at *
            generalize hL8 : L ++ fP N r d a z ++ fS N r d a (z + 1) (h + 1) = L8 at *
            clear hs7 HLL HIH HFP HFS HEND HP0 HS0 HSS
            unfold fillV at c4 c4o
            go_wp2_with fail
            go_region_law (first | (refine step_push HS7.out _ rfl (.tmp 38) (.tmp 43) rfl a (z + 1) h HSM.out.1 HSM.out.2.1 HSM.out.2.2 ?_ HR4.out (by simp [Act.eval]) (by simp [Act.eval]) ?_; exact ⟨rfl, rfl, rfl, Nat.le_refl _, fun _ _ => rfl⟩; intro v4 w4 hst4 hbk4; have q4 := hst4.bf.cell 0 rfl; have HS4 := Lib.hid hst4; have HBK4 := Lib.hid hbk4; unfold fillV at q4; clear hst4 hbk4) | (go_simp; go_at_call 35; refine (HCA.out _ _ _ HS4.out).mono ?_; rintro e w8 ⟨rfl, u8, hto8⟩; have HTO8 := Lib.hid (HTO7.out.trans (HBK4.out _ _ _ hto8)); clear hto8))
            all_goals
              go_wp2
              go_roundw
              case rel => exact ⟨h + 1, by omega, by go_num, u8, by rw [hL8]; exact HTO8.out⟩
              case measure => simp [intOf]; omega
          · obtain rfl : h = z + 1 := by omega
            have HTO8 : Hid (FTo base b2 b3 b4 N w u G v r u7 (L ++ fP N r d a (z + 1)) wr) := by unfold Hid; rw [HPS.out z, ← List.append_assoc]; exact HTO7.out
            go_wp2
            go_roundw
            case rel => exact ⟨z + 1, by omega, by go_num, u7, HTO8.out⟩
            case measure => simp [intOf]; omega
    · obtain rfl : z = min 2 d := by omega
      rw [HEND.out] at HTO5
      rcases (show d = 1 ∨ 2 ≤ d by omega) with h1 | h2
      · subst h1
        go_wp2
        refine bodyPost_end (results_none rfl _ _ _) rfl ?_
        exact ⟨rfl, u5, HTO5.out⟩
      · have hm2 : min 2 d = 2 := by omega
        have hd2 : (2 : Int) ≤ (d : Int) := by omega
        have hd3 : ¬ (d : Int) < 2 := by omega
        rw [hm2]
        go_wp2
        refine bodyPost_end (results_none rfl _ _ _) rfl ?_
        exact ⟨rfl, u5, HTO5.out⟩
end Go.Proofs.YtifmcbhgoncgjaaDoor
