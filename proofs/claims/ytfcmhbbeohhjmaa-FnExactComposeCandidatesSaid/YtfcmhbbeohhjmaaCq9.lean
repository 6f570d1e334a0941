/- The program's ComposeCandidates: what it answers. -/
import Derived.Test.YtfcmhbbeohhjmaaCo9
import Derived.Test.YtfcmhbbeohhjmaaIc5
import Derived.Lib.QuietBelow
namespace Go.Proofs.Ytfcmhbbeohhjmaa
set_option maxRecDepth 100000
open Go.RowKit Go.Sort M
set_option linter.unusedVariables false
set_option linter.unusedSimpArgs false
set_option maxRecDepth 100000

theorem jump_of {J J' : Act → World → Prop} {Q : Exit → Act → World → Prop} (h : ∀ a w, J a w → J' a w) : ∀ e a w, Exit.jump 0 J Q e a w → Exit.jump 0 J' Q e a w := by
  intro e a w hq
  cases e with
  | goto l => exact ⟨hq.1, h _ _ hq.2⟩
  | _ => exact hq
set_option maxHeartbeats 4000000 in
theorem composeLinks_any (l m : List DLink) (A B : Option Addr) (ca cb : Nat) (F : Addr → Prop) (w : World) (hF : ∀ a, F a → a.block < w.heap.size) (hl : l.length ≤ 16) (hm : m.length ≤ 16) (hca : l.length ≤ ca) (hcb : m.length ≤ cb) (hio : outL l = inL m)
    (hv : RowRd rLink false w (.slice A l.length ca) l F) (hu : RowRd rLink false w (.slice B m.length cb) m F) :
    Calls Try.prog 44 #[.slice A l.length ca, .slice B m.length cb] w (OwnPost rLink (compL l m) w) := by
  have H0 : Hid (CL w F (compL l m) w (.slice A l.length ca) (.slice B m.length cb) (.slice none 0 0) l m []) :=
    ⟨hv, hu, ⟨_, _, rfl, hca⟩, ⟨_, _, rfl, hcb⟩, World.ownsRow_nil _ _ _ _, Below.refl _ _, hio, rfl, by simp; omega⟩
  have HF := Lib.hid hF
  clear hv hu hF
  go_enter Try.func44, Try.ntmps44
  go_wp2
  refine wp_scope_jumps (rest := .seq .skip R44) 0 (J44 w F (compL l m)) mu44 (by dsimp only [R44, Try.f44]; rfl) ?_ ?_
  · go_wp2
    rename_i K hK
    go_step3
    refine hK _ _ ?_
    exact Code.wp_mono (jump_of fun a w h => h.1) (pass44 w F HF.out (compL l m) _ _ _ l m [] undef undef (.slice none 0 0) undef undef undef undef undef undef undef undef undef undef undef undef undef undef undef undef undef undef undef undef undef undef undef undef undef undef undef undef undef undef undef undef undef undef undef undef undef undef undef undef undef undef undef undef undef undef undef undef undef undef undef undef undef undef undef undef undef undef undef undef undef undef w H0.out)
  · rintro a' w' ⟨va, vb, vc, la, lb, acc, u2, u3, u4, u6, u7, u8, u9, u10, u11, u12, u13, u14, u15, u16, u17, u18, u19, u20, u21, u22, u23, u24, u25, u26, u27, u28, u29, u30, u31, u32, u33, u34, u35, u36, u37, u38, u39, u40, u41, u42, u43, u44, u45, u46, u47, u48, u49, u50, u51, u52, u53, u54, u55, u56, u57, u58, u59, u60, u61, u62, u63, u64, u65, u66, u67, rfl, h⟩
    have e : mu44 { tmps := #[va, vb, u2, u3, u4, vc, u6, u7, u8, u9, u10, u11, u12, u13, u14, u15, u16, u17, u18, u19, u20, u21, u22, u23, u24, u25, u26, u27, u28, u29, u30, u31, u32, u33, u34, u35, u36, u37, u38, u39, u40, u41, u42, u43, u44, u45, u46, u47, u48, u49, u50, u51, u52, u53, u54, u55, u56, u57, u58, u59, u60, u61, u62, u63, u64, u65, u66, u67], defers := [] } w' = la.length + lb.length := by
      obtain ⟨_, _, rfl, _⟩ := h.ca
      obtain ⟨_, _, rfl, _⟩ := h.cb
      rfl
    rw [e]
    refine wp_seq (wp_skip ?_)
    simp only [Exit.then]
    exact pass44 w F HF.out (compL l m) va vb vc la lb acc _ _ _ _ _ _ _ _ _ _ _ _ _ _ _ _ _ _ _ _ _ _ _ _ _ _ _ _ _ _ _ _ _ _ _ _ _ _ _ _ _ _ _ _ _ _ _ _ _ _ _ _ _ _ _ _ _ _ _ _ _ _ _ _ _ w' h
end Go.Proofs.Ytfcmhbbeohhjmaa
