/- Merged: Md2 Md3. -/
import Derived.Test.YtlkhknoaifbajaaA1
import Derived.BigRegion
import Derived.Deep.RegionWith
import Derived.Deep.DeepCutAuto
/- The model's l7From: what it answers. -/
namespace Go.Proofs.Ytlkhknoaifbajaa
set_option maxRecDepth 100000
open Go.RowKit
set_option linter.unusedVariables false
set_option linter.unusedSimpArgs false

def insTo (q : List (List DLink)) : Nat → List (List DLink)
  | 0 => []
  | 1 => q.map ((⟨0, 116⟩ : DLink) :: ·)
  | _ => insL q
theorem row_keep {α : Type} {E : Rep α} {s : Bool} {w w' : World} {v : Value} {l : List α} {F : Addr → Prop} (h : RowRd E s w v l F) (hk : ∀ a, F a → w'.heap[a.block]? = w.heap[a.block]?) : RowRd E s w' v l F :=
  h.frame fun a ha => ⟨World.cell?_of_block (w := w) (hk a ha), World.frozen?_of_block (w := w) (hk a ha)⟩
theorem gen_row {s : ByteArray} (hz : ∀ b ∈ s.data.toList, ¬ b = 0) (hs : s.size ≤ 8) (n k : Nat) (hn : n ≤ 2) : ∀ m ∈ genL n (s.data.toList.drop k), m.length ≤ 1000 := by
  intro m hm
  have h := (genL_mem n _ (fun b hb => hz b (List.mem_of_mem_drop hb)) m).1 hm
  have h1 := (sides_len m h.1).1
  have h2 : (s.data.toList.drop k).length ≤ 8 := by rw [List.length_drop]; simp; omega
  rw [h.2.1] at h1
  have := h.2.2
  omega
theorem gen_rows {s : ByteArray} (hs : s.size ≤ 8) (n k : Nat) (hn : n ≤ 2) : (genL n (s.data.toList.drop k)).length ≤ 2000 := gen_len n hn _ (by rw [List.length_drop]; simp; omega)
theorem drop_byte (s : ByteArray) (k : Nat) (h : k < s.size) : s.data.toList.drop k = s[k] :: s.data.toList.drop (k + 1) := by
  have h2 : k < s.data.toList.length := by simpa using h
  rw [List.drop_eq_getElem_cons h2]
  rfl
theorem drop_end (s : ByteArray) (k : Nat) (h : k = s.size) : s.data.toList.drop k = [] := List.drop_eq_nil_of_le (by subst h; simp)
theorem OwnC.formN {base : Nat} {w : World} {v : Value} {p : List (List DLink)} (h : OwnC base w v p) : ∃ A n cap, v = .slice A n cap := by
  obtain ⟨A, cap, e⟩ := h.form
  exact ⟨A, _, cap, e⟩
theorem RowRd.formN {α : Type} {E : Rep α} {s : Bool} {w : World} {v : Value} {l : List α} {F : Addr → Prop} (h : RowRd E s w v l F) : ∃ A n cap, v = .slice A n cap := by
  obtain ⟨A, cap, e⟩ := h.form
  exact ⟨A, _, cap, e⟩
/-- One empty candidate in a block of its own. -/
theorem one_empty (w : World) : RowRd rCandidate true (w.alloc (.cells #[.slice none 0 0] 26)) (.slice (some ⟨w.heap.size, 0, none⟩) 1 1) (cdL [[]]) (fun a => w.heap.size ≤ a.block ∧ a.block < (w.alloc (.cells #[.slice none 0 0] 26)).heap.size) :=
  (RowRd.one (e := 26) w (rCandidate_mk (s := true) (x := ⟨[]⟩) (RowRd.nil true w (fun _ => False))) (fun a ha => ha.elim)).mono fun a ha => by
    have h : a.block = w.heap.size := ha.resolve_left id
    exact ⟨by omega, by simp; omega⟩
def FromPost (n k : Nat) (s : ByteArray) (w : World) : Ending → World → Prop := OwnPost rCandidate (cdL (genL n (s.data.toList.drop k))) w
set_option maxHeartbeats 16000000 in
theorem specFrom0_any (s : ByteArray) (hz : ∀ b ∈ s.data.toList, ¬ b = 0) (hs : s.size ≤ 8) : ∀ (d k : Nat), k + d = s.size → ∀ w, Calls Try.prog 77 #[.string s, .int .i64 (k : Int), .int .i64 0] w (FromPost 0 k s w) := by
  intro d
  induction d with
  | zero =>
    intro k hk w
    obtain rfl : k = s.size := by omega
    have HGEN := Lib.hid (drop_end s s.size rfl)
    have HP : Hid (∀ (u : Value) (w' : World), OwnC w.heap.size w' u (genL 0 (s.data.toList.drop s.size)) → Below w.heap.size w w' → FromPost 0 s.size s w (.returned u) w') := fun u w' h1 h2 => ⟨u, rfl, h1.row (by have := gen_rows hs 0 s.size (by omega); omega), h2⟩
    have HE0 : Hid (OwnC w.heap.size (w.alloc (.cells #[] 26)) (.slice (some ⟨w.heap.size, 0, none⟩) 0 0) []) := OwnC.empty w (Nat.le_refl _)
    have HBA : Hid (Below w.heap.size w (w.alloc (.cells #[] 26))) := (Below.refl _ _).alloc (Nat.le_refl _) _
    have HG : insTo (genL 0 (s.data.toList.drop s.size)) 2 = insTo (genL 0 (s.data.toList.drop s.size)) 2 := rfl
    have HGG : Hid (genL 0 (s.data.toList.drop s.size) = [[]]) := by unfold Hid; rw [HGEN.out]; rfl
    clear HG
    have HOE := Lib.hid (one_empty (w.alloc (.cells #[] 26)))
    go_enter Try.func77, Try.ntmps77
    go_wp2_with (at_builtin; refine wpList_cands (w.alloc (.cells #[] 26)) _ rfl (.tmp 18) (.tmp 20) rfl w.heap.size _ [] HE0.out ((Below.refl _ _).alloc (Nat.le_refl _) _) (by simp) _ _ _ [[]] HOE.out (by simp) (by simp) rfl (by simp [Act.eval]) ?_; intro v1 wc h1 h2 h3 h4; have HO := Lib.hid h1; have HBE : Hid (Below w.heap.size w wc) := HBA.out.trans h2; clear h1 h2 h3 h4)
    go_ret
    exact HP.out _ _ (by rw [HGG.out]; exact HO.out) HBE.out
  | succ d ih =>
    intro k hk w
    have hkl : k < s.size := by omega
    have hkli : (k : Int) < (s.size : Int) := by omega
    have hkn : ¬ (k : Int) = (s.size : Int) := by omega
    have hkb : ((k : Int) == (s.size : Int)) = false := by simpa using hkn
    have HGEN := Lib.hid (drop_byte s k hkl)
    have HP : Hid (∀ (u : Value) (w' : World), OwnC w.heap.size w' u (genL 0 (s.data.toList.drop k)) → Below w.heap.size w w' → FromPost 0 k s w (.returned u) w') := fun u w' h1 h2 => ⟨u, rfl, h1.row (by have := gen_rows hs 0 k (by omega); omega), h2⟩
    have HE0 : Hid (OwnC w.heap.size (w.alloc (.cells #[] 26)) (.slice (some ⟨w.heap.size, 0, none⟩) 0 0) []) := OwnC.empty w (Nat.le_refl _)
    have HBA : Hid (Below w.heap.size w (w.alloc (.cells #[] 26))) := (Below.refl _ _).alloc (Nat.le_refl _) _
    have HF0 : Hid (∀ W, Calls Try.prog 77 #[.string s, .int .i64 ((k : Int) + 1), .int .i64 0] W (FromPost 0 (k + 1) s W)) := fun W => by
      have h := ih (k + 1) (by omega) W
      rwa [show ((k + 1 : Nat) : Int) = (k : Int) + 1 by omega] at h
    have HL0 := Lib.hid (gen_rows hs 0 (k + 1) (by omega))
    have HR0 := Lib.hid (gen_row hz hs 0 (k + 1) (by omega))
    have HGG : Hid (genL 0 (s.data.toList.drop k) = (genL 0 (s.data.toList.drop (k + 1))).map ((⟨s[k], s[k]⟩ : DLink) :: ·)) := by unfold Hid; rw [HGEN.out]; rfl
    have hw1 : IntKind.i64.wrap ((k : Int) + 1) = (k : Int) + 1 := IntWalk.i64_in _ (by omega)
    clear ih
    go_enter Try.func77, Try.ntmps77
    go_upto_if 17 with fail
    go_cut [7] (fun u wx => OwnC w.heap.size wx u ((genL 0 (s.data.toList.drop (k + 1))).map ((⟨s[k], s[k]⟩ : DLink) :: ·)) ∧ Below w.heap.size w wx)
    case first =>
      go_wp2_with fail
      go_region_law (first | (refine step_cands (w.alloc (.cells #[] 26)) w3 rfl (.tmp 22) (.tmp 35) rfl w.heap.size _ [] HE0.out HB3.out (by simp) A3 n3 c3 _ HR3.out (by simp) (by have := HL0.out; rw [List.length_map]; omega) (by simp [Act.eval]) (by simp [Act.eval]) ?_; intro v4 w4 h1 h2; have HO4 := Lib.hid h1; have HB4 : Hid (Below w.heap.size w w4) := HBA.out.trans h2; clear h1 h2) | (go_simp; go_at_call 103; refine (specBefore_any (⟨s[k], s[k]⟩ : DLink) _ _ _ w2 (Nat.le_trans HL0.out (by omega)) HR0.out HQ2.out.weak).mono ?_; rintro e w3 ⟨g3, rfl, hq3, hb3⟩; obtain ⟨A3, n3, c3, rfl⟩ := hq3.formN; have HR3 : Hid (RowRd rCandidate true w3 (.slice A3 n3 c3) (cdL ((genL 0 (s.data.toList.drop (k + 1))).map ((⟨s[k], s[k]⟩ : DLink) :: ·))) (fun a => (w.alloc (.cells #[] 26)).heap.size ≤ a.block ∧ a.block < w3.heap.size)) := (hq3.tight.mono (fun a ha => ⟨Nat.le_trans HB2.out.size ha.1, ha.2⟩)); have HB3 : Hid (Below (w.alloc (.cells #[] 26)).heap.size (w.alloc (.cells #[] 26)) w3) := HB2.out.trans (hb3.mono HB2.out.size); clear hq3 hb3) | (go_simp; go_at_call 77; refine (HF0.out _).mono ?_; rintro e w2 ⟨g2, rfl, hq2, hb2⟩; obtain ⟨A2, n2, c2, rfl⟩ := hq2.formN; have HQ2 := Lib.hid hq2; have HB2 : Hid (Below (w.alloc (.cells #[] 26)).heap.size (w.alloc (.cells #[] 26)) w2) := (Below.trans (drewB (Below.refl _ _)) hb2); clear hq2 hb2))
      all_goals
        go_wp2_with fail
        go_meet
        exact ⟨HO4.out, HB4.out⟩
    case rest =>
    obtain ⟨hown, hbe⟩ := hcut
    generalize wc = wa at *
    obtain ⟨Ab, nb, cb, rfl⟩ := hown.formN
    have HO := Lib.hid hown
    have HBE := Lib.hid hbe
    clear hown hbe
    go_wp2
    go_ret
    exact HP.out _ _ (by rw [HGG.out]; exact HO.out) HBE.out
set_option maxHeartbeats 16000000 in
theorem specFrom1_any (s : ByteArray) (hz : ∀ b ∈ s.data.toList, ¬ b = 0) (hs : s.size ≤ 8) : ∀ (d k : Nat), k + d = s.size → ∀ w, Calls Try.prog 77 #[.string s, .int .i64 (k : Int), .int .i64 1] w (FromPost 1 k s w) := by
  intro d
  induction d with
  | zero =>
    intro k hk w
    obtain rfl : k = s.size := by omega
    have HGEN := Lib.hid (drop_end s s.size rfl)
    have HP : Hid (∀ (u : Value) (w' : World), OwnC w.heap.size w' u (genL 1 (s.data.toList.drop s.size)) → Below w.heap.size w w' → FromPost 1 s.size s w (.returned u) w') := fun u w' h1 h2 => ⟨u, rfl, h1.row (by have := gen_rows hs 1 s.size (by omega); omega), h2⟩
    have HE0 : Hid (OwnC w.heap.size (w.alloc (.cells #[] 26)) (.slice (some ⟨w.heap.size, 0, none⟩) 0 0) []) := OwnC.empty w (Nat.le_refl _)
    have HBA : Hid (Below w.heap.size w (w.alloc (.cells #[] 26))) := (Below.refl _ _).alloc (Nat.le_refl _) _
    have HG : insTo (genL 0 (s.data.toList.drop s.size)) 2 = insTo (genL 0 (s.data.toList.drop s.size)) 2 := rfl
    have HGG : Hid ([[]] ++ insTo (genL 0 (s.data.toList.drop s.size)) 2 = genL 1 (s.data.toList.drop s.size)) := by unfold Hid; rw [HGEN.out]; rfl
    have HFM : ∀ W, Calls Try.prog 77 #[.string s, .int .i64 (s.size : Int), .int .i64 0] W (FromPost 0 s.size s W) := fun W => specFrom0_any s hz hs 0 s.size (by omega) W
    clear HG
    have HOE := Lib.hid (one_empty (w.alloc (.cells #[] 26)))
    go_enter Try.func77, Try.ntmps77
    go_wp2_with (at_builtin; refine wpList_cands (w.alloc (.cells #[] 26)) _ rfl (.tmp 18) (.tmp 20) rfl w.heap.size _ [] HE0.out ((Below.refl _ _).alloc (Nat.le_refl _) _) (by simp) _ _ _ [[]] HOE.out (by simp) (by simp) rfl (by simp [Act.eval]) ?_; intro v1 wc h1 h2 h3 h4; have HO := Lib.hid h1; have HBE : Hid (Below w.heap.size w wc) := HBA.out.trans h2; clear h1 h2 h3 h4)
    have HO2 : Hid (OwnC w.heap.size wc v1 [[]]) := HO.out
    clear HO
    have HXL : Hid (([[]] : List (List DLink)).length ≤ 5000) := by unfold Hid; simp
    generalize ([[]] : List (List DLink)) = X at HO2 HXL HGG
    have HG := HGG
    have HO := HO2
    clear HO2 HGG
    generalize genL 1 (s.data.toList.drop s.size) = G at *
    have HF2 : Hid (∀ W, Calls Try.prog 77 #[.string s, .int .i64 (s.size : Int), .int .i64 0] W (FromPost 0 s.size s W)) := HFM
    have HQL := Lib.hid (gen_rows hs 0 s.size (by omega))
    have HQR := Lib.hid (gen_row hz hs 0 s.size (by omega))
    obtain ⟨Au, nu, cu, rfl⟩ := HO.out.formN
    go_wp2_with fail
    refine (HF2.out _).mono ?_
    rintro e w5 ⟨g5, rfl, hq5, hb5⟩
    obtain ⟨A5, n5, c5, rfl⟩ := hq5.formN
    generalize genL 0 (s.data.toList.drop s.size) = q at *
    have HAP : Hid (∀ b, (Value.slice Au nu cu).ownBlock = some b → b < wc.heap.size) := fun b hb => (OwnRd.lt HO.out b hb).2
    have HR5 := Lib.hid hq5.tight
    have HO5 := Lib.hid (HO.out.kept hb5)
    have HBE5 : Hid (Below w.heap.size w w5) := HBE.out.trans (hb5.mono HBE.out.size)
    have HS5 : Hid (wc.heap.size ≤ w5.heap.size) := hb5.size
    have HS0 : Hid (w.heap.size ≤ wc.heap.size) := HBE.out.size
    clear hq5 hb5
    go_wp2_with fail
    go_loopw [7, 12] (fun u i wr => ∃ (j : Nat), j ≤ 2 ∧ i = .int .i64 j ∧ OwnC w.heap.size wr u (X ++ insTo q j) ∧ (∀ b, u.ownBlock = some b → b < wc.heap.size ∨ w5.heap.size ≤ b) ∧ RowRd rCandidate true wr (.slice A5 n5 c5) (cdL q) (fun a => wc.heap.size ≤ a.block ∧ a.block < w5.heap.size) ∧ Below w.heap.size w wr ∧ Hid (w5.heap.size ≤ wr.heap.size)) (fun _ i _ => 2 - (intOf i).toNat)
    case atStart => exact ⟨0, by omega, rfl, by simpa [insTo] using HO5.out, fun b hb => Or.inl (HAP.out b hb), HR5.out, HBE5.out, Nat.le_refl _⟩
    case round =>
      obtain ⟨j, hj, rfl, hown, hap, hrow, hbe, hsz⟩ := hrel
      obtain ⟨Av, nv, cv, rfl⟩ := hown.formN
      have HO6 := Lib.hid hown
      have HAP6 := Lib.hid hap
      have HR6 := Lib.hid hrow
      have HBE6 := Lib.hid hbe
      clear hown hap hrow hbe
      rcases (show j = 0 ∨ j = 1 ∨ j = 2 by omega) with rfl | rfl | rfl
      · have HBF := Lib.hid (specBefore_any ⟨0, 116⟩ _ q _ wr (by have := HQL.out; omega) HQR.out HR6.out.weak)
        go_wp2_with fail
        refine HBF.out.mono ?_
        rintro e w7 ⟨g7, rfl, hq7, hb7⟩
        obtain ⟨A7, n7, c7, rfl⟩ := hq7.formN
        have HR7 := Lib.hid hq7.tight
        have HB7 := Lib.hid hb7
        have HR67 := Lib.hid (HR6.out.kept hb7)
        clear hq7 hb7 HBF
        go_wp2_with (at_builtin; refine wpList_cands wr w7 rfl (.tmp 84) (.tmp 89) rfl w.heap.size _ (X ++ insTo q 0) HO6.out HB7.out HBE6.out.size A7 _ c7 (q.map ((⟨0, 116⟩ : DLink) :: ·)) HR7.out (by have := HXL.out; have := HQL.out; simp [insTo, insL]; omega) (by have := HQL.out; simp; omega) rfl rfl ?_; intro v8 w8 h1 h2 h3 h4; obtain ⟨A8, n8, c8, rfl⟩ := h1.formN; have HO8 := Lib.hid h1; have HB8 := Lib.hid h2; have HK8 := Lib.hid h3; have HM8 := Lib.hid h4; clear h1 h2 h3 h4)
        have HR8 : Hid (RowRd rCandidate true w8 (.slice A5 n5 c5) (cdL q) (fun a => wc.heap.size ≤ a.block ∧ a.block < w5.heap.size)) := row_keep HR6.out (fun a ha => HK8.out a.block (by have := hsz.out; omega) (fun e => by have := HAP6.out _ e; omega))
        have HAP8 : Hid (∀ b, (Value.slice A8 n8 c8).ownBlock = some b → b < wc.heap.size ∨ w5.heap.size ≤ b) := fun b hb => by
          rcases HM8.out with h | h
          · rw [h] at hb; exact HAP6.out b hb
          · have := h b hb; have := hsz.out; exact Or.inr (by omega)
        have HIN : Hid (X ++ insTo q 0 ++ q.map ((⟨0, 116⟩ : DLink) :: ·) = X ++ insTo q 1) := by unfold Hid; simp [insTo, insL]
        go_roundw
        case rel => exact ⟨1, by omega, by go_num, by rw [← HIN.out]; exact HO8.out, HAP8.out, HR8.out, HBE6.out.trans HB8.out, by have h1 := HB8.out.size; have := hsz.out; unfold Hid; omega⟩
        case measure => simp [intOf]
      · have HBF := Lib.hid (specBefore_any ⟨0, 105⟩ _ q _ wr (by have := HQL.out; omega) HQR.out HR6.out.weak)
        go_wp2_with fail
        refine HBF.out.mono ?_
        rintro e w7 ⟨g7, rfl, hq7, hb7⟩
        obtain ⟨A7, n7, c7, rfl⟩ := hq7.formN
        have HR7 := Lib.hid hq7.tight
        have HB7 := Lib.hid hb7
        have HR67 := Lib.hid (HR6.out.kept hb7)
        clear hq7 hb7 HBF
        go_wp2_with (at_builtin; refine wpList_cands wr w7 rfl (.tmp 84) (.tmp 89) rfl w.heap.size _ (X ++ insTo q 1) HO6.out HB7.out HBE6.out.size A7 _ c7 (q.map ((⟨0, 105⟩ : DLink) :: ·)) HR7.out (by have := HXL.out; have := HQL.out; simp [insTo, insL]; omega) (by have := HQL.out; simp; omega) rfl rfl ?_; intro v8 w8 h1 h2 h3 h4; obtain ⟨A8, n8, c8, rfl⟩ := h1.formN; have HO8 := Lib.hid h1; have HB8 := Lib.hid h2; have HK8 := Lib.hid h3; have HM8 := Lib.hid h4; clear h1 h2 h3 h4)
        have HR8 : Hid (RowRd rCandidate true w8 (.slice A5 n5 c5) (cdL q) (fun a => wc.heap.size ≤ a.block ∧ a.block < w5.heap.size)) := row_keep HR6.out (fun a ha => HK8.out a.block (by have := hsz.out; omega) (fun e => by have := HAP6.out _ e; omega))
        have HAP8 : Hid (∀ b, (Value.slice A8 n8 c8).ownBlock = some b → b < wc.heap.size ∨ w5.heap.size ≤ b) := fun b hb => by
          rcases HM8.out with h | h
          · rw [h] at hb; exact HAP6.out b hb
          · have := h b hb; have := hsz.out; exact Or.inr (by omega)
        have HIN : Hid (X ++ insTo q 1 ++ q.map ((⟨0, 105⟩ : DLink) :: ·) = X ++ insTo q 2) := by unfold Hid; simp [insTo, insL]
        go_roundw
        case rel => exact ⟨2, by omega, by go_num, by rw [← HIN.out]; exact HO8.out, HAP8.out, HR8.out, HBE6.out.trans HB8.out, by have h1 := HB8.out.size; have := hsz.out; unfold Hid; omega⟩
        case measure => simp [intOf]
      · have HALL : Hid (X ++ insTo q 2 = G) := HG
        go_wp2
        go_ret
        exact HP.out _ _ (by rw [← HALL.out]; exact HO6.out) HBE6.out
  | succ d ih =>
    intro k hk w
    have hkl : k < s.size := by omega
    have hkli : (k : Int) < (s.size : Int) := by omega
    have hkn : ¬ (k : Int) = (s.size : Int) := by omega
    have hkb : ((k : Int) == (s.size : Int)) = false := by simpa using hkn
    have HGEN := Lib.hid (drop_byte s k hkl)
    have HP : Hid (∀ (u : Value) (w' : World), OwnC w.heap.size w' u (genL 1 (s.data.toList.drop k)) → Below w.heap.size w w' → FromPost 1 k s w (.returned u) w') := fun u w' h1 h2 => ⟨u, rfl, h1.row (by have := gen_rows hs 1 k (by omega); omega), h2⟩
    have HE0 : Hid (OwnC w.heap.size (w.alloc (.cells #[] 26)) (.slice (some ⟨w.heap.size, 0, none⟩) 0 0) []) := OwnC.empty w (Nat.le_refl _)
    have HBA : Hid (Below w.heap.size w (w.alloc (.cells #[] 26))) := (Below.refl _ _).alloc (Nat.le_refl _) _
    have HF0 : Hid (∀ W, Calls Try.prog 77 #[.string s, .int .i64 ((k : Int) + 1), .int .i64 1] W (FromPost 1 (k + 1) s W)) := fun W => by
      have h := ih (k + 1) (by omega) W
      rwa [show ((k + 1 : Nat) : Int) = (k : Int) + 1 by omega] at h
    have HL0 := Lib.hid (gen_rows hs 1 (k + 1) (by omega))
    have HR0 := Lib.hid (gen_row hz hs 1 (k + 1) (by omega))
    have HF1 : Hid (∀ W, Calls Try.prog 77 #[.string s, .int .i64 ((k : Int) + 1), .int .i64 0] W (FromPost 0 (k + 1) s W)) := fun W => by
      have h := specFrom0_any s hz hs d (k + 1) (by omega) W
      rwa [show ((k + 1 : Nat) : Int) = (k : Int) + 1 by omega] at h
    have HFM : ∀ W, Calls Try.prog 77 #[.string s, .int .i64 (k : Int), .int .i64 0] W (FromPost 0 k s W) := fun W => specFrom0_any s hz hs (d + 1) k hk W
    have HL1 := Lib.hid (gen_rows hs 0 (k + 1) (by omega))
    have HR1 := Lib.hid (gen_row hz hs 0 (k + 1) (by omega))
    have HVL := Lib.hid (voiceL_len s[k] (genL 0 (s.data.toList.drop (k + 1))))
    have HGG : Hid (((genL 1 (s.data.toList.drop (k + 1))).map ((⟨s[k], s[k]⟩ : DLink) :: ·) ++ ((genL 0 (s.data.toList.drop (k + 1))).map ((⟨s[k], 0⟩ : DLink) :: ·) ++ voiceL s[k] (genL 0 (s.data.toList.drop (k + 1))))) ++ insTo (genL 0 (s.data.toList.drop k)) 2 = genL 1 (s.data.toList.drop k)) := by
      unfold Hid
      rw [HGEN.out]
      show _ = genS (genL 0) (s[k] :: s.data.toList.drop (k + 1))
      unfold genS
      simp only [insTo, List.append_assoc]
      rfl
    have hw1 : IntKind.i64.wrap ((k : Int) + 1) = (k : Int) + 1 := IntWalk.i64_in _ (by omega)
    clear ih
    go_enter Try.func77, Try.ntmps77
    go_upto_if 17 with fail
    go_cut [7] (fun u wx => OwnC w.heap.size wx u ((genL 1 (s.data.toList.drop (k + 1))).map ((⟨s[k], s[k]⟩ : DLink) :: ·)) ∧ Below w.heap.size w wx)
    case first =>
      go_wp2_with fail
      go_region_law (first | (refine step_cands (w.alloc (.cells #[] 26)) w3 rfl (.tmp 22) (.tmp 35) rfl w.heap.size _ [] HE0.out HB3.out (by simp) A3 n3 c3 _ HR3.out (by simp) (by have := HL0.out; rw [List.length_map]; omega) (by simp [Act.eval]) (by simp [Act.eval]) ?_; intro v4 w4 h1 h2; have HO4 := Lib.hid h1; have HB4 : Hid (Below w.heap.size w w4) := HBA.out.trans h2; clear h1 h2) | (go_simp; go_at_call 103; refine (specBefore_any (⟨s[k], s[k]⟩ : DLink) _ _ _ w2 (Nat.le_trans HL0.out (by omega)) HR0.out HQ2.out.weak).mono ?_; rintro e w3 ⟨g3, rfl, hq3, hb3⟩; obtain ⟨A3, n3, c3, rfl⟩ := hq3.formN; have HR3 : Hid (RowRd rCandidate true w3 (.slice A3 n3 c3) (cdL ((genL 1 (s.data.toList.drop (k + 1))).map ((⟨s[k], s[k]⟩ : DLink) :: ·))) (fun a => (w.alloc (.cells #[] 26)).heap.size ≤ a.block ∧ a.block < w3.heap.size)) := (hq3.tight.mono (fun a ha => ⟨Nat.le_trans HB2.out.size ha.1, ha.2⟩)); have HB3 : Hid (Below (w.alloc (.cells #[] 26)).heap.size (w.alloc (.cells #[] 26)) w3) := HB2.out.trans (hb3.mono HB2.out.size); clear hq3 hb3) | (go_simp; go_at_call 77; refine (HF0.out _).mono ?_; rintro e w2 ⟨g2, rfl, hq2, hb2⟩; obtain ⟨A2, n2, c2, rfl⟩ := hq2.formN; have HQ2 := Lib.hid hq2; have HB2 : Hid (Below (w.alloc (.cells #[] 26)).heap.size (w.alloc (.cells #[] 26)) w2) := (Below.trans (drewB (Below.refl _ _)) hb2); clear hq2 hb2))
      all_goals
        go_wp2_with fail
        go_meet
        exact ⟨HO4.out, HB4.out⟩
    case rest =>
    obtain ⟨hown, hbe⟩ := hcut
    generalize wc = wa at *
    obtain ⟨Ab, nb, cb, rfl⟩ := hown.formN
    have HO := Lib.hid hown
    have HBE := Lib.hid hbe
    clear hown hbe
    have HXX : Hid (((genL 1 (s.data.toList.drop (k + 1))).map ((⟨s[k], s[k]⟩ : DLink) :: ·)).length ≤ 2000) := by have := HL0.out; unfold Hid; rw [List.length_map]; omega
    generalize (genL 1 (s.data.toList.drop (k + 1))).map ((⟨s[k], s[k]⟩ : DLink) :: ·) = X0 at *
    generalize genL 1 (s.data.toList.drop k) = G at *
    have hvo : Hid (isObs (s[k].toNat : Int) = false → voiceL s[k] (genL 0 (s.data.toList.drop (k + 1))) = []) := fun h => by unfold voiceL; rw [h]; rfl
    have hvy : Hid (isObs (s[k].toNat : Int) = true → voiceL s[k] (genL 0 (s.data.toList.drop (k + 1))) = (genL 0 (s.data.toList.drop (k + 1))).map (voL s[k] :: ·)) := fun h => by unfold voiceL; rw [h]; rfl
    generalize hV : voiceL s[k] (genL 0 (s.data.toList.drop (k + 1))) = V at *
    generalize hQ1 : genL 0 (s.data.toList.drop (k + 1)) = q1 at *
    have HQ1 := Lib.hid hQ1
    clear hQ1 hV
    go_upto_if 43 with fail
    go_cut [7] (fun u wx => OwnC w.heap.size wx u (X0 ++ (q1.map ((⟨s[k], 0⟩ : DLink) :: ·) ++ V)) ∧ Below w.heap.size w wx)
    case first =>
      go_wp2_with fail
      refine (HF1.out _).mono ?_
      rintro e w5 ⟨g5, rfl, hq5, hb5⟩
      obtain ⟨A5, n5, c5, rfl⟩ := hq5.formN
      rw [HQ1.out] at hq5
      have HR5 := Lib.hid hq5.tight
      have HO5 := Lib.hid (HO.out.kept hb5)
      have HAB : Hid (∀ b, (Value.slice Ab nb cb).ownBlock = some b → b < wa.heap.size) := fun b hb => (OwnRd.lt HO.out b hb).2
      have HBE5 : Hid (Below w.heap.size w w5) := HBE.out.trans (hb5.mono HBE.out.size)
      have HBF := Lib.hid (specBefore_any (⟨s[k], 0⟩ : DLink) _ q1 _ w5 (Nat.le_trans HL1.out (by omega)) HR1.out hq5.weak)
      clear hq5 hb5
      go_wp2_with fail
      refine HBF.out.mono ?_
      rintro e w6 ⟨g6, rfl, hq6, hb6⟩
      obtain ⟨A6, n6, c6, rfl⟩ := hq6.formN
      have HR6 := Lib.hid hq6.tight
      have HB6 := Lib.hid hb6
      clear hq6 hb6 HBF
      go_wp2_with (at_builtin; refine wpList_cands w5 w6 rfl (.tmp 50) (.tmp 56) rfl w.heap.size _ X0 HO5.out HB6.out HBE5.out.size A6 n6 c6 (q1.map ((⟨s[k], 0⟩ : DLink) :: ·)) HR6.out (by have := HXX.out; omega) (by have := HL1.out; rw [List.length_map]; omega) rfl rfl ?_; intro v7 w7 h1 h2 h3 h4; obtain ⟨A7, n7, c7, rfl⟩ := h1.formN; have HO7 := Lib.hid h1; have HB7 := Lib.hid h2; have HK7 := Lib.hid h3; clear h1 h2 h3 h4)
      refine (specSwap_any _ _).mono ?_
      rintro e w8 ⟨rfl, rfl⟩
      cases ho : isObs (s[k].toNat : Int)
      · have HV0 := Lib.hid (hvo.out ho)
        go_wp2_with fail
        go_meet
        exact ⟨by rw [HV0.out, List.append_nil]; exact HO7.out, HBE5.out.trans HB7.out⟩
      · have HV1 := Lib.hid (hvy.out ho)
        have hsw := swap_ne ho
        have hev : ((voL s[k]).Out.toNat : Int) = swapV (s[k].toNat : Int) := M.byt_toNat _ hsw.2.2.1 hsw.2.2.2.1
        have HR7 : Hid (RowRd rCandidate true w7 (.slice A5 n5 c5) (cdL q1) (fun a => wa.heap.size ≤ a.block ∧ a.block < w5.heap.size)) := row_keep HR5.out (fun a ha => HK7.out a.block ha.2 (fun e => by have := HAB.out _ e; have := ha.1; omega))
        have HBV : Hid (Calls Try.prog 103 #[.agg #[.int .u8 (s[k].toNat : Int), .int .u8 (swapV (s[k].toNat : Int))], .slice A5 n5 c5] w7 (OwnPost rCandidate (cdL (q1.map (voL s[k] :: ·))) w7)) := by
          have h := specBefore_any (voL s[k]) _ q1 _ w7 (Nat.le_trans HL1.out (by omega)) HR1.out HR7.out.weak
          rw [hev] at h
          exact h
        have HBE7 : Hid (Below w.heap.size w w7) := HBE5.out.trans HB7.out
        clear hsw hev
        go_wp2_with fail
        refine HBV.out.mono ?_
        rintro e w9 ⟨g9, rfl, hq9, hb9⟩
        obtain ⟨A9, n9, c9, rfl⟩ := hq9.formN
        have HR9 := Lib.hid hq9.tight
        have HB9 := Lib.hid hb9
        clear hq9 hb9 HBV
        go_wp2_with (at_builtin; refine wpList_cands w7 w9 rfl (.tmp 66) (.tmp 73) rfl w.heap.size _ (X0 ++ q1.map ((⟨s[k], 0⟩ : DLink) :: ·)) HO7.out HB9.out HBE7.out.size A9 n9 c9 (q1.map (voL s[k] :: ·)) HR9.out (by have := HXX.out; have := HL1.out; rw [List.length_append, List.length_map]; omega) (by have := HL1.out; rw [List.length_map]; omega) rfl rfl ?_; intro v10 w10 h1 h2 h3 h4; have HO10 := Lib.hid h1; have HB10 := Lib.hid h2; clear h1 h2 h3 h4)
        go_meet
        exact ⟨by rw [HV1.out, ← List.append_assoc]; exact HO10.out, HBE7.out.trans HB10.out⟩
    case rest =>
    obtain ⟨hown, hbe⟩ := hcut
    have HO := Lib.hid hown
    have HBE := Lib.hid hbe
    clear hown hbe
    have HXL : Hid ((X0 ++ (q1.map ((⟨s[k], 0⟩ : DLink) :: ·) ++ V)).length ≤ 8000) := by have := HXX.out; have := HL1.out; have := HVL.out; unfold Hid; rw [List.length_append, List.length_append, List.length_map]; omega
    generalize X0 ++ (q1.map ((⟨s[k], 0⟩ : DLink) :: ·) ++ V) = X at *
    have HG := HGG
    have HF2 : Hid (∀ W, Calls Try.prog 77 #[.string s, .int .i64 (k : Int), .int .i64 0] W (FromPost 0 k s W)) := HFM
    have HQL := Lib.hid (gen_rows hs 0 k (by omega))
    have HQR := Lib.hid (gen_row hz hs 0 k (by omega))
    obtain ⟨Au, nu, cu, rfl⟩ := HO.out.formN
    go_wp2_with fail
    refine (HF2.out _).mono ?_
    rintro e w5 ⟨g5, rfl, hq5, hb5⟩
    obtain ⟨A5, n5, c5, rfl⟩ := hq5.formN
    generalize genL 0 (s.data.toList.drop k) = q at *
    have HAP : Hid (∀ b, (Value.slice Au nu cu).ownBlock = some b → b < wc.heap.size) := fun b hb => (OwnRd.lt HO.out b hb).2
    have HR5 := Lib.hid hq5.tight
    have HO5 := Lib.hid (HO.out.kept hb5)
    have HBE5 : Hid (Below w.heap.size w w5) := HBE.out.trans (hb5.mono HBE.out.size)
    have HS5 : Hid (wc.heap.size ≤ w5.heap.size) := hb5.size
    have HS0 : Hid (w.heap.size ≤ wc.heap.size) := HBE.out.size
    clear hq5 hb5
    go_wp2_with fail
    go_loopw [7, 12] (fun u i wr => ∃ (j : Nat), j ≤ 2 ∧ i = .int .i64 j ∧ OwnC w.heap.size wr u (X ++ insTo q j) ∧ (∀ b, u.ownBlock = some b → b < wc.heap.size ∨ w5.heap.size ≤ b) ∧ RowRd rCandidate true wr (.slice A5 n5 c5) (cdL q) (fun a => wc.heap.size ≤ a.block ∧ a.block < w5.heap.size) ∧ Below w.heap.size w wr ∧ Hid (w5.heap.size ≤ wr.heap.size)) (fun _ i _ => 2 - (intOf i).toNat)
    case atStart => exact ⟨0, by omega, rfl, by simpa [insTo] using HO5.out, fun b hb => Or.inl (HAP.out b hb), HR5.out, HBE5.out, Nat.le_refl _⟩
    case round =>
      obtain ⟨j, hj, rfl, hown, hap, hrow, hbe, hsz⟩ := hrel
      obtain ⟨Av, nv, cv, rfl⟩ := hown.formN
      have HO6 := Lib.hid hown
      have HAP6 := Lib.hid hap
      have HR6 := Lib.hid hrow
      have HBE6 := Lib.hid hbe
      clear hown hap hrow hbe
      rcases (show j = 0 ∨ j = 1 ∨ j = 2 by omega) with rfl | rfl | rfl
      · have HBF := Lib.hid (specBefore_any ⟨0, 116⟩ _ q _ wr (by have := HQL.out; omega) HQR.out HR6.out.weak)
        go_wp2_with fail
        refine HBF.out.mono ?_
        rintro e w7 ⟨g7, rfl, hq7, hb7⟩
        obtain ⟨A7, n7, c7, rfl⟩ := hq7.formN
        have HR7 := Lib.hid hq7.tight
        have HB7 := Lib.hid hb7
        have HR67 := Lib.hid (HR6.out.kept hb7)
        clear hq7 hb7 HBF
        go_wp2_with (at_builtin; refine wpList_cands wr w7 rfl (.tmp 84) (.tmp 89) rfl w.heap.size _ (X ++ insTo q 0) HO6.out HB7.out HBE6.out.size A7 _ c7 (q.map ((⟨0, 116⟩ : DLink) :: ·)) HR7.out (by have := HXL.out; have := HQL.out; simp [insTo, insL]; omega) (by have := HQL.out; simp; omega) rfl rfl ?_; intro v8 w8 h1 h2 h3 h4; obtain ⟨A8, n8, c8, rfl⟩ := h1.formN; have HO8 := Lib.hid h1; have HB8 := Lib.hid h2; have HK8 := Lib.hid h3; have HM8 := Lib.hid h4; clear h1 h2 h3 h4)
        have HR8 : Hid (RowRd rCandidate true w8 (.slice A5 n5 c5) (cdL q) (fun a => wc.heap.size ≤ a.block ∧ a.block < w5.heap.size)) := row_keep HR6.out (fun a ha => HK8.out a.block (by have := hsz.out; omega) (fun e => by have := HAP6.out _ e; omega))
        have HAP8 : Hid (∀ b, (Value.slice A8 n8 c8).ownBlock = some b → b < wc.heap.size ∨ w5.heap.size ≤ b) := fun b hb => by
          rcases HM8.out with h | h
          · rw [h] at hb; exact HAP6.out b hb
          · have := h b hb; have := hsz.out; exact Or.inr (by omega)
        have HIN : Hid (X ++ insTo q 0 ++ q.map ((⟨0, 116⟩ : DLink) :: ·) = X ++ insTo q 1) := by unfold Hid; simp [insTo, insL]
        go_roundw
        case rel => exact ⟨1, by omega, by go_num, by rw [← HIN.out]; exact HO8.out, HAP8.out, HR8.out, HBE6.out.trans HB8.out, by have h1 := HB8.out.size; have := hsz.out; unfold Hid; omega⟩
        case measure => simp [intOf]
      · have HBF := Lib.hid (specBefore_any ⟨0, 105⟩ _ q _ wr (by have := HQL.out; omega) HQR.out HR6.out.weak)
        go_wp2_with fail
        refine HBF.out.mono ?_
        rintro e w7 ⟨g7, rfl, hq7, hb7⟩
        obtain ⟨A7, n7, c7, rfl⟩ := hq7.formN
        have HR7 := Lib.hid hq7.tight
        have HB7 := Lib.hid hb7
        have HR67 := Lib.hid (HR6.out.kept hb7)
        clear hq7 hb7 HBF
        go_wp2_with (at_builtin; refine wpList_cands wr w7 rfl (.tmp 84) (.tmp 89) rfl w.heap.size _ (X ++ insTo q 1) HO6.out HB7.out HBE6.out.size A7 _ c7 (q.map ((⟨0, 105⟩ : DLink) :: ·)) HR7.out (by have := HXL.out; have := HQL.out; simp [insTo, insL]; omega) (by have := HQL.out; simp; omega) rfl rfl ?_; intro v8 w8 h1 h2 h3 h4; obtain ⟨A8, n8, c8, rfl⟩ := h1.formN; have HO8 := Lib.hid h1; have HB8 := Lib.hid h2; have HK8 := Lib.hid h3; have HM8 := Lib.hid h4; clear h1 h2 h3 h4)
        have HR8 : Hid (RowRd rCandidate true w8 (.slice A5 n5 c5) (cdL q) (fun a => wc.heap.size ≤ a.block ∧ a.block < w5.heap.size)) := row_keep HR6.out (fun a ha => HK8.out a.block (by have := hsz.out; omega) (fun e => by have := HAP6.out _ e; omega))
        have HAP8 : Hid (∀ b, (Value.slice A8 n8 c8).ownBlock = some b → b < wc.heap.size ∨ w5.heap.size ≤ b) := fun b hb => by
          rcases HM8.out with h | h
          · rw [h] at hb; exact HAP6.out b hb
          · have := h b hb; have := hsz.out; exact Or.inr (by omega)
        have HIN : Hid (X ++ insTo q 1 ++ q.map ((⟨0, 105⟩ : DLink) :: ·) = X ++ insTo q 2) := by unfold Hid; simp [insTo, insL]
        go_roundw
        case rel => exact ⟨2, by omega, by go_num, by rw [← HIN.out]; exact HO8.out, HAP8.out, HR8.out, HBE6.out.trans HB8.out, by have h1 := HB8.out.size; have := hsz.out; unfold Hid; omega⟩
        case measure => simp [intOf]
      · have HALL : Hid (X ++ insTo q 2 = G) := HG
        go_wp2
        go_ret
        exact HP.out _ _ (by rw [← HALL.out]; exact HO6.out) HBE6.out
set_option maxHeartbeats 16000000 in
theorem specFrom2_any (s : ByteArray) (hz : ∀ b ∈ s.data.toList, ¬ b = 0) (hs : s.size ≤ 8) : ∀ (d k : Nat), k + d = s.size → ∀ w, Calls Try.prog 77 #[.string s, .int .i64 (k : Int), .int .i64 2] w (FromPost 2 k s w) := by
  intro d
  induction d with
  | zero =>
    intro k hk w
    obtain rfl : k = s.size := by omega
    have HGEN := Lib.hid (drop_end s s.size rfl)
    have HP : Hid (∀ (u : Value) (w' : World), OwnC w.heap.size w' u (genL 2 (s.data.toList.drop s.size)) → Below w.heap.size w w' → FromPost 2 s.size s w (.returned u) w') := fun u w' h1 h2 => ⟨u, rfl, h1.row (by have := gen_rows hs 2 s.size (by omega); omega), h2⟩
    have HE0 : Hid (OwnC w.heap.size (w.alloc (.cells #[] 26)) (.slice (some ⟨w.heap.size, 0, none⟩) 0 0) []) := OwnC.empty w (Nat.le_refl _)
    have HBA : Hid (Below w.heap.size w (w.alloc (.cells #[] 26))) := (Below.refl _ _).alloc (Nat.le_refl _) _
    have HG : insTo (genL 1 (s.data.toList.drop s.size)) 2 = insTo (genL 1 (s.data.toList.drop s.size)) 2 := rfl
    have HGG : Hid ([[]] ++ insTo (genL 1 (s.data.toList.drop s.size)) 2 = genL 2 (s.data.toList.drop s.size)) := by unfold Hid; rw [HGEN.out]; rfl
    have HFM : ∀ W, Calls Try.prog 77 #[.string s, .int .i64 (s.size : Int), .int .i64 1] W (FromPost 1 s.size s W) := fun W => specFrom1_any s hz hs 0 s.size (by omega) W
    clear HG
    have HOE := Lib.hid (one_empty (w.alloc (.cells #[] 26)))
    go_enter Try.func77, Try.ntmps77
    go_wp2_with (at_builtin; refine wpList_cands (w.alloc (.cells #[] 26)) _ rfl (.tmp 18) (.tmp 20) rfl w.heap.size _ [] HE0.out ((Below.refl _ _).alloc (Nat.le_refl _) _) (by simp) _ _ _ [[]] HOE.out (by simp) (by simp) rfl (by simp [Act.eval]) ?_; intro v1 wc h1 h2 h3 h4; have HO := Lib.hid h1; have HBE : Hid (Below w.heap.size w wc) := HBA.out.trans h2; clear h1 h2 h3 h4)
    have HO2 : Hid (OwnC w.heap.size wc v1 [[]]) := HO.out
    clear HO
    have HXL : Hid (([[]] : List (List DLink)).length ≤ 5000) := by unfold Hid; simp
    generalize ([[]] : List (List DLink)) = X at HO2 HXL HGG
    have HG := HGG
    have HO := HO2
    clear HO2 HGG
    generalize genL 2 (s.data.toList.drop s.size) = G at *
    have HF2 : Hid (∀ W, Calls Try.prog 77 #[.string s, .int .i64 (s.size : Int), .int .i64 1] W (FromPost 1 s.size s W)) := HFM
    have HQL := Lib.hid (gen_rows hs 1 s.size (by omega))
    have HQR := Lib.hid (gen_row hz hs 1 s.size (by omega))
    obtain ⟨Au, nu, cu, rfl⟩ := HO.out.formN
    go_wp2_with fail
    refine (HF2.out _).mono ?_
    rintro e w5 ⟨g5, rfl, hq5, hb5⟩
    obtain ⟨A5, n5, c5, rfl⟩ := hq5.formN
    generalize genL 1 (s.data.toList.drop s.size) = q at *
    have HAP : Hid (∀ b, (Value.slice Au nu cu).ownBlock = some b → b < wc.heap.size) := fun b hb => (OwnRd.lt HO.out b hb).2
    have HR5 := Lib.hid hq5.tight
    have HO5 := Lib.hid (HO.out.kept hb5)
    have HBE5 : Hid (Below w.heap.size w w5) := HBE.out.trans (hb5.mono HBE.out.size)
    have HS5 : Hid (wc.heap.size ≤ w5.heap.size) := hb5.size
    have HS0 : Hid (w.heap.size ≤ wc.heap.size) := HBE.out.size
    clear hq5 hb5
    go_wp2_with fail
    go_loopw [7, 12] (fun u i wr => ∃ (j : Nat), j ≤ 2 ∧ i = .int .i64 j ∧ OwnC w.heap.size wr u (X ++ insTo q j) ∧ (∀ b, u.ownBlock = some b → b < wc.heap.size ∨ w5.heap.size ≤ b) ∧ RowRd rCandidate true wr (.slice A5 n5 c5) (cdL q) (fun a => wc.heap.size ≤ a.block ∧ a.block < w5.heap.size) ∧ Below w.heap.size w wr ∧ Hid (w5.heap.size ≤ wr.heap.size)) (fun _ i _ => 2 - (intOf i).toNat)
    case atStart => exact ⟨0, by omega, rfl, by simpa [insTo] using HO5.out, fun b hb => Or.inl (HAP.out b hb), HR5.out, HBE5.out, Nat.le_refl _⟩
    case round =>
      obtain ⟨j, hj, rfl, hown, hap, hrow, hbe, hsz⟩ := hrel
      obtain ⟨Av, nv, cv, rfl⟩ := hown.formN
      have HO6 := Lib.hid hown
      have HAP6 := Lib.hid hap
      have HR6 := Lib.hid hrow
      have HBE6 := Lib.hid hbe
      clear hown hap hrow hbe
      rcases (show j = 0 ∨ j = 1 ∨ j = 2 by omega) with rfl | rfl | rfl
      · have HBF := Lib.hid (specBefore_any ⟨0, 116⟩ _ q _ wr (by have := HQL.out; omega) HQR.out HR6.out.weak)
        go_wp2_with fail
        refine HBF.out.mono ?_
        rintro e w7 ⟨g7, rfl, hq7, hb7⟩
        obtain ⟨A7, n7, c7, rfl⟩ := hq7.formN
        have HR7 := Lib.hid hq7.tight
        have HB7 := Lib.hid hb7
        have HR67 := Lib.hid (HR6.out.kept hb7)
        clear hq7 hb7 HBF
        go_wp2_with (at_builtin; refine wpList_cands wr w7 rfl (.tmp 84) (.tmp 89) rfl w.heap.size _ (X ++ insTo q 0) HO6.out HB7.out HBE6.out.size A7 _ c7 (q.map ((⟨0, 116⟩ : DLink) :: ·)) HR7.out (by have := HXL.out; have := HQL.out; simp [insTo, insL]; omega) (by have := HQL.out; simp; omega) rfl rfl ?_; intro v8 w8 h1 h2 h3 h4; obtain ⟨A8, n8, c8, rfl⟩ := h1.formN; have HO8 := Lib.hid h1; have HB8 := Lib.hid h2; have HK8 := Lib.hid h3; have HM8 := Lib.hid h4; clear h1 h2 h3 h4)
        have HR8 : Hid (RowRd rCandidate true w8 (.slice A5 n5 c5) (cdL q) (fun a => wc.heap.size ≤ a.block ∧ a.block < w5.heap.size)) := row_keep HR6.out (fun a ha => HK8.out a.block (by have := hsz.out; omega) (fun e => by have := HAP6.out _ e; omega))
        have HAP8 : Hid (∀ b, (Value.slice A8 n8 c8).ownBlock = some b → b < wc.heap.size ∨ w5.heap.size ≤ b) := fun b hb => by
          rcases HM8.out with h | h
          · rw [h] at hb; exact HAP6.out b hb
          · have := h b hb; have := hsz.out; exact Or.inr (by omega)
        have HIN : Hid (X ++ insTo q 0 ++ q.map ((⟨0, 116⟩ : DLink) :: ·) = X ++ insTo q 1) := by unfold Hid; simp [insTo, insL]
        go_roundw
        case rel => exact ⟨1, by omega, by go_num, by rw [← HIN.out]; exact HO8.out, HAP8.out, HR8.out, HBE6.out.trans HB8.out, by have h1 := HB8.out.size; have := hsz.out; unfold Hid; omega⟩
        case measure => simp [intOf]
      · have HBF := Lib.hid (specBefore_any ⟨0, 105⟩ _ q _ wr (by have := HQL.out; omega) HQR.out HR6.out.weak)
        go_wp2_with fail
        refine HBF.out.mono ?_
        rintro e w7 ⟨g7, rfl, hq7, hb7⟩
        obtain ⟨A7, n7, c7, rfl⟩ := hq7.formN
        have HR7 := Lib.hid hq7.tight
        have HB7 := Lib.hid hb7
        have HR67 := Lib.hid (HR6.out.kept hb7)
        clear hq7 hb7 HBF
        go_wp2_with (at_builtin; refine wpList_cands wr w7 rfl (.tmp 84) (.tmp 89) rfl w.heap.size _ (X ++ insTo q 1) HO6.out HB7.out HBE6.out.size A7 _ c7 (q.map ((⟨0, 105⟩ : DLink) :: ·)) HR7.out (by have := HXL.out; have := HQL.out; simp [insTo, insL]; omega) (by have := HQL.out; simp; omega) rfl rfl ?_; intro v8 w8 h1 h2 h3 h4; obtain ⟨A8, n8, c8, rfl⟩ := h1.formN; have HO8 := Lib.hid h1; have HB8 := Lib.hid h2; have HK8 := Lib.hid h3; have HM8 := Lib.hid h4; clear h1 h2 h3 h4)
        have HR8 : Hid (RowRd rCandidate true w8 (.slice A5 n5 c5) (cdL q) (fun a => wc.heap.size ≤ a.block ∧ a.block < w5.heap.size)) := row_keep HR6.out (fun a ha => HK8.out a.block (by have := hsz.out; omega) (fun e => by have := HAP6.out _ e; omega))
        have HAP8 : Hid (∀ b, (Value.slice A8 n8 c8).ownBlock = some b → b < wc.heap.size ∨ w5.heap.size ≤ b) := fun b hb => by
          rcases HM8.out with h | h
          · rw [h] at hb; exact HAP6.out b hb
          · have := h b hb; have := hsz.out; exact Or.inr (by omega)
        have HIN : Hid (X ++ insTo q 1 ++ q.map ((⟨0, 105⟩ : DLink) :: ·) = X ++ insTo q 2) := by unfold Hid; simp [insTo, insL]
        go_roundw
        case rel => exact ⟨2, by omega, by go_num, by rw [← HIN.out]; exact HO8.out, HAP8.out, HR8.out, HBE6.out.trans HB8.out, by have h1 := HB8.out.size; have := hsz.out; unfold Hid; omega⟩
        case measure => simp [intOf]
      · have HALL : Hid (X ++ insTo q 2 = G) := HG
        go_wp2
        go_ret
        exact HP.out _ _ (by rw [← HALL.out]; exact HO6.out) HBE6.out
  | succ d ih =>
    intro k hk w
    have hkl : k < s.size := by omega
    have hkli : (k : Int) < (s.size : Int) := by omega
    have hkn : ¬ (k : Int) = (s.size : Int) := by omega
    have hkb : ((k : Int) == (s.size : Int)) = false := by simpa using hkn
    have HGEN := Lib.hid (drop_byte s k hkl)
    have HP : Hid (∀ (u : Value) (w' : World), OwnC w.heap.size w' u (genL 2 (s.data.toList.drop k)) → Below w.heap.size w w' → FromPost 2 k s w (.returned u) w') := fun u w' h1 h2 => ⟨u, rfl, h1.row (by have := gen_rows hs 2 k (by omega); omega), h2⟩
    have HE0 : Hid (OwnC w.heap.size (w.alloc (.cells #[] 26)) (.slice (some ⟨w.heap.size, 0, none⟩) 0 0) []) := OwnC.empty w (Nat.le_refl _)
    have HBA : Hid (Below w.heap.size w (w.alloc (.cells #[] 26))) := (Below.refl _ _).alloc (Nat.le_refl _) _
    have HF0 : Hid (∀ W, Calls Try.prog 77 #[.string s, .int .i64 ((k : Int) + 1), .int .i64 2] W (FromPost 2 (k + 1) s W)) := fun W => by
      have h := ih (k + 1) (by omega) W
      rwa [show ((k + 1 : Nat) : Int) = (k : Int) + 1 by omega] at h
    have HL0 := Lib.hid (gen_rows hs 2 (k + 1) (by omega))
    have HR0 := Lib.hid (gen_row hz hs 2 (k + 1) (by omega))
    have HF1 : Hid (∀ W, Calls Try.prog 77 #[.string s, .int .i64 ((k : Int) + 1), .int .i64 1] W (FromPost 1 (k + 1) s W)) := fun W => by
      have h := specFrom1_any s hz hs d (k + 1) (by omega) W
      rwa [show ((k + 1 : Nat) : Int) = (k : Int) + 1 by omega] at h
    have HFM : ∀ W, Calls Try.prog 77 #[.string s, .int .i64 (k : Int), .int .i64 1] W (FromPost 1 k s W) := fun W => specFrom1_any s hz hs (d + 1) k hk W
    have HL1 := Lib.hid (gen_rows hs 1 (k + 1) (by omega))
    have HR1 := Lib.hid (gen_row hz hs 1 (k + 1) (by omega))
    have HVL := Lib.hid (voiceL_len s[k] (genL 1 (s.data.toList.drop (k + 1))))
    have HGG : Hid (((genL 2 (s.data.toList.drop (k + 1))).map ((⟨s[k], s[k]⟩ : DLink) :: ·) ++ ((genL 1 (s.data.toList.drop (k + 1))).map ((⟨s[k], 0⟩ : DLink) :: ·) ++ voiceL s[k] (genL 1 (s.data.toList.drop (k + 1))))) ++ insTo (genL 1 (s.data.toList.drop k)) 2 = genL 2 (s.data.toList.drop k)) := by
      unfold Hid
      rw [HGEN.out]
      show _ = genS (genL 1) (s[k] :: s.data.toList.drop (k + 1))
      unfold genS
      simp only [insTo, List.append_assoc]
      rfl
    have hw1 : IntKind.i64.wrap ((k : Int) + 1) = (k : Int) + 1 := IntWalk.i64_in _ (by omega)
    clear ih
    go_enter Try.func77, Try.ntmps77
    go_upto_if 17 with fail
    go_cut [7] (fun u wx => OwnC w.heap.size wx u ((genL 2 (s.data.toList.drop (k + 1))).map ((⟨s[k], s[k]⟩ : DLink) :: ·)) ∧ Below w.heap.size w wx)
    case first =>
      go_wp2_with fail
      go_region_law (first | (refine step_cands (w.alloc (.cells #[] 26)) w3 rfl (.tmp 22) (.tmp 35) rfl w.heap.size _ [] HE0.out HB3.out (by simp) A3 n3 c3 _ HR3.out (by simp) (by have := HL0.out; rw [List.length_map]; omega) (by simp [Act.eval]) (by simp [Act.eval]) ?_; intro v4 w4 h1 h2; have HO4 := Lib.hid h1; have HB4 : Hid (Below w.heap.size w w4) := HBA.out.trans h2; clear h1 h2) | (go_simp; go_at_call 103; refine (specBefore_any (⟨s[k], s[k]⟩ : DLink) _ _ _ w2 (Nat.le_trans HL0.out (by omega)) HR0.out HQ2.out.weak).mono ?_; rintro e w3 ⟨g3, rfl, hq3, hb3⟩; obtain ⟨A3, n3, c3, rfl⟩ := hq3.formN; have HR3 : Hid (RowRd rCandidate true w3 (.slice A3 n3 c3) (cdL ((genL 2 (s.data.toList.drop (k + 1))).map ((⟨s[k], s[k]⟩ : DLink) :: ·))) (fun a => (w.alloc (.cells #[] 26)).heap.size ≤ a.block ∧ a.block < w3.heap.size)) := (hq3.tight.mono (fun a ha => ⟨Nat.le_trans HB2.out.size ha.1, ha.2⟩)); have HB3 : Hid (Below (w.alloc (.cells #[] 26)).heap.size (w.alloc (.cells #[] 26)) w3) := HB2.out.trans (hb3.mono HB2.out.size); clear hq3 hb3) | (go_simp; go_at_call 77; refine (HF0.out _).mono ?_; rintro e w2 ⟨g2, rfl, hq2, hb2⟩; obtain ⟨A2, n2, c2, rfl⟩ := hq2.formN; have HQ2 := Lib.hid hq2; have HB2 : Hid (Below (w.alloc (.cells #[] 26)).heap.size (w.alloc (.cells #[] 26)) w2) := (Below.trans (drewB (Below.refl _ _)) hb2); clear hq2 hb2))
      all_goals
        go_wp2_with fail
        go_meet
        exact ⟨HO4.out, HB4.out⟩
    case rest =>
    obtain ⟨hown, hbe⟩ := hcut
    generalize wc = wa at *
    obtain ⟨Ab, nb, cb, rfl⟩ := hown.formN
    have HO := Lib.hid hown
    have HBE := Lib.hid hbe
    clear hown hbe
    have HXX : Hid (((genL 2 (s.data.toList.drop (k + 1))).map ((⟨s[k], s[k]⟩ : DLink) :: ·)).length ≤ 2000) := by have := HL0.out; unfold Hid; rw [List.length_map]; omega
    generalize (genL 2 (s.data.toList.drop (k + 1))).map ((⟨s[k], s[k]⟩ : DLink) :: ·) = X0 at *
    generalize genL 2 (s.data.toList.drop k) = G at *
    have hvo : Hid (isObs (s[k].toNat : Int) = false → voiceL s[k] (genL 1 (s.data.toList.drop (k + 1))) = []) := fun h => by unfold voiceL; rw [h]; rfl
    have hvy : Hid (isObs (s[k].toNat : Int) = true → voiceL s[k] (genL 1 (s.data.toList.drop (k + 1))) = (genL 1 (s.data.toList.drop (k + 1))).map (voL s[k] :: ·)) := fun h => by unfold voiceL; rw [h]; rfl
    generalize hV : voiceL s[k] (genL 1 (s.data.toList.drop (k + 1))) = V at *
    generalize hQ1 : genL 1 (s.data.toList.drop (k + 1)) = q1 at *
    have HQ1 := Lib.hid hQ1
    clear hQ1 hV
    go_upto_if 43 with fail
    go_cut [7] (fun u wx => OwnC w.heap.size wx u (X0 ++ (q1.map ((⟨s[k], 0⟩ : DLink) :: ·) ++ V)) ∧ Below w.heap.size w wx)
    case first =>
      go_wp2_with fail
      refine (HF1.out _).mono ?_
      rintro e w5 ⟨g5, rfl, hq5, hb5⟩
      obtain ⟨A5, n5, c5, rfl⟩ := hq5.formN
      rw [HQ1.out] at hq5
      have HR5 := Lib.hid hq5.tight
      have HO5 := Lib.hid (HO.out.kept hb5)
      have HAB : Hid (∀ b, (Value.slice Ab nb cb).ownBlock = some b → b < wa.heap.size) := fun b hb => (OwnRd.lt HO.out b hb).2
      have HBE5 : Hid (Below w.heap.size w w5) := HBE.out.trans (hb5.mono HBE.out.size)
      have HBF := Lib.hid (specBefore_any (⟨s[k], 0⟩ : DLink) _ q1 _ w5 (Nat.le_trans HL1.out (by omega)) HR1.out hq5.weak)
      clear hq5 hb5
      go_wp2_with fail
      refine HBF.out.mono ?_
      rintro e w6 ⟨g6, rfl, hq6, hb6⟩
      obtain ⟨A6, n6, c6, rfl⟩ := hq6.formN
      have HR6 := Lib.hid hq6.tight
      have HB6 := Lib.hid hb6
      clear hq6 hb6 HBF
      go_wp2_with (at_builtin; refine wpList_cands w5 w6 rfl (.tmp 50) (.tmp 56) rfl w.heap.size _ X0 HO5.out HB6.out HBE5.out.size A6 n6 c6 (q1.map ((⟨s[k], 0⟩ : DLink) :: ·)) HR6.out (by have := HXX.out; omega) (by have := HL1.out; rw [List.length_map]; omega) rfl rfl ?_; intro v7 w7 h1 h2 h3 h4; obtain ⟨A7, n7, c7, rfl⟩ := h1.formN; have HO7 := Lib.hid h1; have HB7 := Lib.hid h2; have HK7 := Lib.hid h3; clear h1 h2 h3 h4)
      refine (specSwap_any _ _).mono ?_
      rintro e w8 ⟨rfl, rfl⟩
      cases ho : isObs (s[k].toNat : Int)
      · have HV0 := Lib.hid (hvo.out ho)
        go_wp2_with fail
        go_meet
        exact ⟨by rw [HV0.out, List.append_nil]; exact HO7.out, HBE5.out.trans HB7.out⟩
      · have HV1 := Lib.hid (hvy.out ho)
        have hsw := swap_ne ho
        have hev : ((voL s[k]).Out.toNat : Int) = swapV (s[k].toNat : Int) := M.byt_toNat _ hsw.2.2.1 hsw.2.2.2.1
        have HR7 : Hid (RowRd rCandidate true w7 (.slice A5 n5 c5) (cdL q1) (fun a => wa.heap.size ≤ a.block ∧ a.block < w5.heap.size)) := row_keep HR5.out (fun a ha => HK7.out a.block ha.2 (fun e => by have := HAB.out _ e; have := ha.1; omega))
        have HBV : Hid (Calls Try.prog 103 #[.agg #[.int .u8 (s[k].toNat : Int), .int .u8 (swapV (s[k].toNat : Int))], .slice A5 n5 c5] w7 (OwnPost rCandidate (cdL (q1.map (voL s[k] :: ·))) w7)) := by
          have h := specBefore_any (voL s[k]) _ q1 _ w7 (Nat.le_trans HL1.out (by omega)) HR1.out HR7.out.weak
          rw [hev] at h
          exact h
        have HBE7 : Hid (Below w.heap.size w w7) := HBE5.out.trans HB7.out
        clear hsw hev
        go_wp2_with fail
        refine HBV.out.mono ?_
        rintro e w9 ⟨g9, rfl, hq9, hb9⟩
        obtain ⟨A9, n9, c9, rfl⟩ := hq9.formN
        have HR9 := Lib.hid hq9.tight
        have HB9 := Lib.hid hb9
        clear hq9 hb9 HBV
        go_wp2_with (at_builtin; refine wpList_cands w7 w9 rfl (.tmp 66) (.tmp 73) rfl w.heap.size _ (X0 ++ q1.map ((⟨s[k], 0⟩ : DLink) :: ·)) HO7.out HB9.out HBE7.out.size A9 n9 c9 (q1.map (voL s[k] :: ·)) HR9.out (by have := HXX.out; have := HL1.out; rw [List.length_append, List.length_map]; omega) (by have := HL1.out; rw [List.length_map]; omega) rfl rfl ?_; intro v10 w10 h1 h2 h3 h4; have HO10 := Lib.hid h1; have HB10 := Lib.hid h2; clear h1 h2 h3 h4)
        go_meet
        exact ⟨by rw [HV1.out, ← List.append_assoc]; exact HO10.out, HBE7.out.trans HB10.out⟩
    case rest =>
    obtain ⟨hown, hbe⟩ := hcut
    have HO := Lib.hid hown
    have HBE := Lib.hid hbe
    clear hown hbe
    have HXL : Hid ((X0 ++ (q1.map ((⟨s[k], 0⟩ : DLink) :: ·) ++ V)).length ≤ 8000) := by have := HXX.out; have := HL1.out; have := HVL.out; unfold Hid; rw [List.length_append, List.length_append, List.length_map]; omega
    generalize X0 ++ (q1.map ((⟨s[k], 0⟩ : DLink) :: ·) ++ V) = X at *
    have HG := HGG
    have HF2 : Hid (∀ W, Calls Try.prog 77 #[.string s, .int .i64 (k : Int), .int .i64 1] W (FromPost 1 k s W)) := HFM
    have HQL := Lib.hid (gen_rows hs 1 k (by omega))
    have HQR := Lib.hid (gen_row hz hs 1 k (by omega))
    obtain ⟨Au, nu, cu, rfl⟩ := HO.out.formN
    go_wp2_with fail
    refine (HF2.out _).mono ?_
    rintro e w5 ⟨g5, rfl, hq5, hb5⟩
    obtain ⟨A5, n5, c5, rfl⟩ := hq5.formN
    generalize genL 1 (s.data.toList.drop k) = q at *
    have HAP : Hid (∀ b, (Value.slice Au nu cu).ownBlock = some b → b < wc.heap.size) := fun b hb => (OwnRd.lt HO.out b hb).2
    have HR5 := Lib.hid hq5.tight
    have HO5 := Lib.hid (HO.out.kept hb5)
    have HBE5 : Hid (Below w.heap.size w w5) := HBE.out.trans (hb5.mono HBE.out.size)
    have HS5 : Hid (wc.heap.size ≤ w5.heap.size) := hb5.size
    have HS0 : Hid (w.heap.size ≤ wc.heap.size) := HBE.out.size
    clear hq5 hb5
    go_wp2_with fail
    go_loopw [7, 12] (fun u i wr => ∃ (j : Nat), j ≤ 2 ∧ i = .int .i64 j ∧ OwnC w.heap.size wr u (X ++ insTo q j) ∧ (∀ b, u.ownBlock = some b → b < wc.heap.size ∨ w5.heap.size ≤ b) ∧ RowRd rCandidate true wr (.slice A5 n5 c5) (cdL q) (fun a => wc.heap.size ≤ a.block ∧ a.block < w5.heap.size) ∧ Below w.heap.size w wr ∧ Hid (w5.heap.size ≤ wr.heap.size)) (fun _ i _ => 2 - (intOf i).toNat)
    case atStart => exact ⟨0, by omega, rfl, by simpa [insTo] using HO5.out, fun b hb => Or.inl (HAP.out b hb), HR5.out, HBE5.out, Nat.le_refl _⟩
    case round =>
      obtain ⟨j, hj, rfl, hown, hap, hrow, hbe, hsz⟩ := hrel
      obtain ⟨Av, nv, cv, rfl⟩ := hown.formN
      have HO6 := Lib.hid hown
      have HAP6 := Lib.hid hap
      have HR6 := Lib.hid hrow
      have HBE6 := Lib.hid hbe
      clear hown hap hrow hbe
      rcases (show j = 0 ∨ j = 1 ∨ j = 2 by omega) with rfl | rfl | rfl
      · have HBF := Lib.hid (specBefore_any ⟨0, 116⟩ _ q _ wr (by have := HQL.out; omega) HQR.out HR6.out.weak)
        go_wp2_with fail
        refine HBF.out.mono ?_
        rintro e w7 ⟨g7, rfl, hq7, hb7⟩
        obtain ⟨A7, n7, c7, rfl⟩ := hq7.formN
        have HR7 := Lib.hid hq7.tight
        have HB7 := Lib.hid hb7
        have HR67 := Lib.hid (HR6.out.kept hb7)
        clear hq7 hb7 HBF
        go_wp2_with (at_builtin; refine wpList_cands wr w7 rfl (.tmp 84) (.tmp 89) rfl w.heap.size _ (X ++ insTo q 0) HO6.out HB7.out HBE6.out.size A7 _ c7 (q.map ((⟨0, 116⟩ : DLink) :: ·)) HR7.out (by have := HXL.out; have := HQL.out; simp [insTo, insL]; omega) (by have := HQL.out; simp; omega) rfl rfl ?_; intro v8 w8 h1 h2 h3 h4; obtain ⟨A8, n8, c8, rfl⟩ := h1.formN; have HO8 := Lib.hid h1; have HB8 := Lib.hid h2; have HK8 := Lib.hid h3; have HM8 := Lib.hid h4; clear h1 h2 h3 h4)
        have HR8 : Hid (RowRd rCandidate true w8 (.slice A5 n5 c5) (cdL q) (fun a => wc.heap.size ≤ a.block ∧ a.block < w5.heap.size)) := row_keep HR6.out (fun a ha => HK8.out a.block (by have := hsz.out; omega) (fun e => by have := HAP6.out _ e; omega))
        have HAP8 : Hid (∀ b, (Value.slice A8 n8 c8).ownBlock = some b → b < wc.heap.size ∨ w5.heap.size ≤ b) := fun b hb => by
          rcases HM8.out with h | h
          · rw [h] at hb; exact HAP6.out b hb
          · have := h b hb; have := hsz.out; exact Or.inr (by omega)
        have HIN : Hid (X ++ insTo q 0 ++ q.map ((⟨0, 116⟩ : DLink) :: ·) = X ++ insTo q 1) := by unfold Hid; simp [insTo, insL]
        go_roundw
        case rel => exact ⟨1, by omega, by go_num, by rw [← HIN.out]; exact HO8.out, HAP8.out, HR8.out, HBE6.out.trans HB8.out, by have h1 := HB8.out.size; have := hsz.out; unfold Hid; omega⟩
        case measure => simp [intOf]
      · have HBF := Lib.hid (specBefore_any ⟨0, 105⟩ _ q _ wr (by have := HQL.out; omega) HQR.out HR6.out.weak)
        go_wp2_with fail
        refine HBF.out.mono ?_
        rintro e w7 ⟨g7, rfl, hq7, hb7⟩
        obtain ⟨A7, n7, c7, rfl⟩ := hq7.formN
        have HR7 := Lib.hid hq7.tight
        have HB7 := Lib.hid hb7
        have HR67 := Lib.hid (HR6.out.kept hb7)
        clear hq7 hb7 HBF
        go_wp2_with (at_builtin; refine wpList_cands wr w7 rfl (.tmp 84) (.tmp 89) rfl w.heap.size _ (X ++ insTo q 1) HO6.out HB7.out HBE6.out.size A7 _ c7 (q.map ((⟨0, 105⟩ : DLink) :: ·)) HR7.out (by have := HXL.out; have := HQL.out; simp [insTo, insL]; omega) (by have := HQL.out; simp; omega) rfl rfl ?_; intro v8 w8 h1 h2 h3 h4; obtain ⟨A8, n8, c8, rfl⟩ := h1.formN; have HO8 := Lib.hid h1; have HB8 := Lib.hid h2; have HK8 := Lib.hid h3; have HM8 := Lib.hid h4; clear h1 h2 h3 h4)
        have HR8 : Hid (RowRd rCandidate true w8 (.slice A5 n5 c5) (cdL q) (fun a => wc.heap.size ≤ a.block ∧ a.block < w5.heap.size)) := row_keep HR6.out (fun a ha => HK8.out a.block (by have := hsz.out; omega) (fun e => by have := HAP6.out _ e; omega))
        have HAP8 : Hid (∀ b, (Value.slice A8 n8 c8).ownBlock = some b → b < wc.heap.size ∨ w5.heap.size ≤ b) := fun b hb => by
          rcases HM8.out with h | h
          · rw [h] at hb; exact HAP6.out b hb
          · have := h b hb; have := hsz.out; exact Or.inr (by omega)
        have HIN : Hid (X ++ insTo q 1 ++ q.map ((⟨0, 105⟩ : DLink) :: ·) = X ++ insTo q 2) := by unfold Hid; simp [insTo, insL]
        go_roundw
        case rel => exact ⟨2, by omega, by go_num, by rw [← HIN.out]; exact HO8.out, HAP8.out, HR8.out, HBE6.out.trans HB8.out, by have h1 := HB8.out.size; have := hsz.out; unfold Hid; omega⟩
        case measure => simp [intOf]
      · have HALL : Hid (X ++ insTo q 2 = G) := HG
        go_wp2
        go_ret
        exact HP.out _ _ (by rw [← HALL.out]; exact HO6.out) HBE6.out
end Go.Proofs.Ytlkhknoaifbajaa

/- The model's Generate, OneEdit, CountCandidates: what they answer. -/
namespace Go.Proofs.Ytlkhknoaifbajaa
set_option maxRecDepth 100000
open Go.RowKit
set_option linter.unusedVariables false
set_option linter.unusedSimpArgs false

def genS2 (s : ByteArray) : List (List DLink) := if isFm s = true ∧ s.size ≤ 4 then genL 2 s.data.toList else []
def genS1 (s : ByteArray) : List (List DLink) := if isFm s = true ∧ s.size ≤ 7 then genL 1 s.data.toList else []
theorem fm_nz {s : ByteArray} (h : isFm s = true) : ∀ b ∈ s.data.toList, ¬ b = 0 := fun b hb => snd_pos (fm_snd h b hb)
set_option maxHeartbeats 4000000 in
theorem specGenerate_any (s : ByteArray) (w : World) (hs : s.size ≤ 1048576) :
    Calls Try.prog 27 #[.string s] w (OwnPost rCandidate (cdL (genS2 s)) w) := by
  have HFM : Hid (∀ W, Calls Try.prog 70 #[.string s] W fun e w' => e = .returned (.bool (isFm s)) ∧ W = w') := fun W => specFm_any s W (by unfold maxLen; omega)
  have HFR : Hid (isFm s = true → s.size ≤ 4 → ∀ W, Calls Try.prog 77 #[.string s, .int .i64 0, .int .i64 2] W (OwnPost rCandidate (cdL (genL 2 s.data.toList)) W)) := fun hf hl W => specFrom2_any s (fm_nz hf) (by omega) s.size 0 (by omega) W
  have HG : Hid (genS2 s = if isFm s = true ∧ s.size ≤ 4 then genL 2 s.data.toList else []) := rfl
  have HP : Hid (∀ (u : Value) (w' : World), RowRd rCandidate true w' u (cdL (genS2 s)) (fun a => w.heap.size ≤ a.block) → Below w.heap.size w w' → OwnPost rCandidate (cdL (genS2 s)) w (.returned u) w') := fun u w' h1 h2 => ⟨u, rfl, h1, h2⟩
  generalize genS2 s = G at *
  generalize isFm s = f at *
  go_enter Try.func27, Try.ntmps27
  go_wp2_with fail
  refine (HFM.out _).mono ?_
  rintro e w2 ⟨rfl, rfl⟩
  cases f
  · have HR : Hid (G = []) := HG.out
    go_wp2_with fail
    go_ret
    exact HP.out _ _ (by rw [HR.out]; exact RowRd.zero _ _ _ _ _) ((Below.refl _ _).alloc (Nat.le_refl _) _)
  · by_cases hl : s.size ≤ 4
    · have HR : Hid (G = genL 2 s.data.toList) := by unfold Hid; rw [HG.out, if_pos ⟨rfl, hl⟩]
      have hli : ¬ (4 : Int) < (s.size : Int) := by omega
      have hli2 : (s.size : Int) ≤ 4 := by omega
      have HF2 := Lib.hid (HFR.out rfl hl)
      clear HFR HG
      go_wp2_with fail
      refine (HF2.out _).mono ?_
      rintro e w3 ⟨u, rfl, hq, hb⟩
      have HQ := Lib.hid hq
      have HB := Lib.hid hb
      clear hq hb
      go_wp2_with fail
      go_ret
      exact HP.out _ _ (by rw [HR.out]; exact HQ.out) HB.out
    · have HR : Hid (G = []) := by unfold Hid; rw [HG.out, if_neg (fun h => hl h.2)]
      have hli : (4 : Int) < (s.size : Int) := by omega
      go_wp2_with fail
      go_ret
      exact HP.out _ _ (by rw [HR.out]; exact RowRd.zero _ _ _ _ _) ((Below.refl _ _).alloc (Nat.le_refl _) _)
set_option maxHeartbeats 4000000 in
theorem specOneEdit_any (s : ByteArray) (w : World) (hs : s.size ≤ 1048576) :
    Calls Try.prog 47 #[.string s] w (OwnPost rCandidate (cdL (genS1 s)) w) := by
  have HFM : Hid (∀ W, Calls Try.prog 70 #[.string s] W fun e w' => e = .returned (.bool (isFm s)) ∧ W = w') := fun W => specFm_any s W (by unfold maxLen; omega)
  have HFR : Hid (isFm s = true → s.size ≤ 7 → ∀ W, Calls Try.prog 77 #[.string s, .int .i64 0, .int .i64 1] W (OwnPost rCandidate (cdL (genL 1 s.data.toList)) W)) := fun hf hl W => specFrom1_any s (fm_nz hf) (by omega) s.size 0 (by omega) W
  have HG : Hid (genS1 s = if isFm s = true ∧ s.size ≤ 7 then genL 1 s.data.toList else []) := rfl
  have HP : Hid (∀ (u : Value) (w' : World), RowRd rCandidate true w' u (cdL (genS1 s)) (fun a => w.heap.size ≤ a.block) → Below w.heap.size w w' → OwnPost rCandidate (cdL (genS1 s)) w (.returned u) w') := fun u w' h1 h2 => ⟨u, rfl, h1, h2⟩
  generalize genS1 s = G at *
  generalize isFm s = f at *
  go_enter Try.func47, Try.ntmps47
  go_wp2_with fail
  refine (HFM.out _).mono ?_
  rintro e w2 ⟨rfl, rfl⟩
  cases f
  · have HR : Hid (G = []) := HG.out
    go_wp2_with fail
    go_ret
    exact HP.out _ _ (by rw [HR.out]; exact RowRd.zero _ _ _ _ _) ((Below.refl _ _).alloc (Nat.le_refl _) _)
  · by_cases hl : s.size ≤ 7
    · have HR : Hid (G = genL 1 s.data.toList) := by unfold Hid; rw [HG.out, if_pos ⟨rfl, hl⟩]
      have hli : ¬ (7 : Int) < (s.size : Int) := by omega
      have hli2 : (s.size : Int) ≤ 7 := by omega
      have HF2 := Lib.hid (HFR.out rfl hl)
      clear HFR HG
      go_wp2_with fail
      refine (HF2.out _).mono ?_
      rintro e w3 ⟨u, rfl, hq, hb⟩
      have HQ := Lib.hid hq
      have HB := Lib.hid hb
      clear hq hb
      go_wp2_with fail
      go_ret
      exact HP.out _ _ (by rw [HR.out]; exact HQ.out) HB.out
    · have HR : Hid (G = []) := by unfold Hid; rw [HG.out, if_neg (fun h => hl h.2)]
      have hli : (7 : Int) < (s.size : Int) := by omega
      go_wp2_with fail
      go_ret
      exact HP.out _ _ (by rw [HR.out]; exact RowRd.zero _ _ _ _ _) ((Below.refl _ _).alloc (Nat.le_refl _) _)
theorem genS2_len (s : ByteArray) : (genS2 s).length ≤ 2000 := by
  unfold genS2
  split
  · rename_i h; exact gen_len 2 (by omega) _ (by simp; omega)
  · simp
theorem specCount_any (s : ByteArray) (w : World) (hs : s.size ≤ 1048576) :
    Calls Try.prog 52 #[.string s] w fun e w' => e = .returned (.int .i64 ((genS2 s).length : Nat)) ∧ Below w.heap.size w w' := by
  have HG : Hid (∀ W, Calls Try.prog 27 #[.string s] W (OwnPost rCandidate (cdL (genS2 s)) W)) := fun W => specGenerate_any s W hs
  have HL : Hid ((cdL (genS2 s)).length = (genS2 s).length) := cdL_len _
  go_enter Try.func52, Try.ntmps52
  go_wp2_with fail
  refine (HG.out _).mono ?_
  rintro e w3 ⟨u, rfl, hq, hb⟩
  obtain ⟨A, cap, rfl⟩ := hq.form
  rw [HL.out]
  have HB := Lib.hid hb
  clear hq hb
  go_wp2_with fail
  go_ret
  exact ⟨rfl, HB.out⟩
end Go.Proofs.Ytlkhknoaifbajaa
