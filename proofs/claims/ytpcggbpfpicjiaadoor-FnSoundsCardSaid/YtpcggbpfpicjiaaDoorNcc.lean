/- Natural classes are closed: plain mathematics. -/
import Derived.Test.YtpcggbpfpicjiaaDoorS7
import Derived.Test.YtpcggbpfpicjiaaDoorS6
namespace Go.Proofs.YtpcggbpfpicjiaaDoor
open M

theorem swapV_swapV (x : Int) : swapV (swapV x) = x := by
  unfold swapV
  by_cases h1 : x = 112
  · subst h1; decide
  · by_cases h2 : x = 98
    · subst h2; decide
    · by_cases h3 : x = 116
      · subst h3; decide
      · by_cases h4 : x = 100
        · subst h4; decide
        · simp [h1, h2, h3, h4]
theorem swapV_range {x : Int} (h0 : 0 ≤ x) (h1 : x < 256) : 0 ≤ swapV x ∧ swapV x < 256 := by
  unfold swapV
  split
  · omega
  · split
    · omega
    · split
      · omega
      · split <;> omega
theorem nb_byt {x : Int} (h0 : 0 ≤ x) (h1 : x < 256) : nb (byt x) = x := by unfold nb; exact byt_toNat x h0 h1
theorem mem_clsL {p : Int → Bool} {b : UInt8} : b ∈ clsL p 7 ↔ ∃ k, k < 7 ∧ p (sndAt k) = true ∧ b = byt (sndAt k) := by
  unfold clsL
  rw [List.mem_map]
  constructor
  · rintro ⟨k, hk, rfl⟩
    rw [List.mem_filter] at hk
    exact ⟨k, by simpa using hk.1, hk.2, rfl⟩
  · rintro ⟨k, hk, hp, rfl⟩
    exact ⟨k, List.mem_filter.2 ⟨by simpa using hk, hp⟩, rfl⟩
theorem isSnd_iff {x : Int} (h : isSnd x = true) : ∃ k, k < 7 ∧ sndAt k = x := by
  refine Classical.byContradiction fun hn => ?_
  have := isSnd_none x fun k hk e => hn ⟨k, hk, e⟩
  rw [this] at h; cases h
theorem shv_yes {l : List UInt8} {k : Nat} (h : shv l k = 1) : ∀ b ∈ l, hasF (nb b) k = true := by
  unfold shv at h
  split at h
  · rename_i ha; exact fun b hb => List.all_eq_true.1 ha b hb
  · split at h <;> omega
theorem shv_not {l : List UInt8} {k : Nat} (h : shv l k = -1) : ∀ b ∈ l, hasF (nb b) k = false := by
  unfold shv at h
  split at h
  · omega
  · split at h
    · rename_i ha; intro b hb; have := List.all_eq_true.1 ha b hb; simpa using this
    · omega
theorem shv_of_yes {l : List UInt8} {k : Nat} (h : ∀ b ∈ l, hasF (nb b) k = true) : shv l k = 1 := by
  unfold shv; rw [if_pos (List.all_eq_true.2 h)]
theorem shv_of_not {l : List UInt8} {k : Nat} (hne : l ≠ []) (h : ∀ b ∈ l, hasF (nb b) k = false) : shv l k = -1 := by
  have hn : ¬ l.all (fun b => hasF (nb b) k) = true := fun ha => by
    cases l with
    | nil => exact hne rfl
    | cons a l =>
      have h1 := List.all_eq_true.1 ha a (List.mem_cons_self ..)
      rw [h a (List.mem_cons_self ..)] at h1
      cases h1
  unfold shv
  rw [if_neg hn, if_pos (List.all_eq_true.2 fun b hb => by simp [h b hb])]
theorem shv_of_both {l : List UInt8} {k : Nat} {a b : UInt8} (ha : a ∈ l) (hb : b ∈ l) (h1 : hasF (nb a) k = true) (h2 : hasF (nb b) k = false) : shv l k = 0 := by
  unfold shv
  rw [if_neg (fun h => by have := List.all_eq_true.1 h b hb; rw [h2] at this; cases this), if_neg (fun h => by have := List.all_eq_true.1 h a ha; rw [h1] at this; cases this)]
theorem shv_zero {l : List UInt8} {k : Nat} (h : shv l k = 0) : (∃ a ∈ l, hasF (nb a) k = true) ∧ ∃ b ∈ l, hasF (nb b) k = false := by
  unfold shv at h
  split at h
  · omega
  · rename_i h1
    split at h
    · omega
    · rename_i h2
      have e1 : l.all (fun b => hasF (nb b) k) = false := by simpa using h1
      have e2 : l.all (fun b => !hasF (nb b) k) = false := by simpa using h2
      rw [List.all_eq_false] at e1 e2
      obtain ⟨b, hb, h3⟩ := e1
      obtain ⟨a, ha, h4⟩ := e2
      exact ⟨⟨a, ha, by simpa using h4⟩, b, hb, by simpa using h3⟩
theorem keep_iff (F : Nat → Int) (x : Int) : keepB F x = true ↔ ∀ k, k < 5 → F k = 0 ∨ F k = sg x k := by
  rw [keepB_iff]
  exact ⟨fun h k hk => (com_keep F x k).1 (h k hk), fun h k hk => (com_keep F x k).2 (h k hk)⟩
/-- The sounds of a group are in its class. -/
theorem group_in {l : List UInt8} (hl : okCls l = true) {b : UInt8} (hb : b ∈ l) : b ∈ clsL (keepB (shv l)) 7 := by
  have hs : isSnd (nb b) = true := by
    unfold okCls at hl
    simp only [Bool.and_eq_true] at hl
    exact List.all_eq_true.1 hl.2 b hb
  obtain ⟨k, hk, he⟩ := isSnd_iff hs
  refine mem_clsL.2 ⟨k, hk, ?_, ?_⟩
  · rw [he, keep_iff]
    intro f _
    rcases (show shv l f = 0 ∨ shv l f = 1 ∨ shv l f = -1 by have := shc_range l f; unfold shc at this; rw [if_pos hl] at this; exact this) with h | h | h
    · exact Or.inl h
    · exact Or.inr (by rw [h, sg_yes (shv_yes h b hb)])
    · exact Or.inr (by rw [h, sg_no (shv_not h b hb)])
  · rw [he]
    apply UInt8.toNat_inj.1
    have h1 := nb_byt (nb_ge b) (nb_lt b)
    have h2 : ((byt (nb b)).toNat : Int) = (b.toNat : Int) := h1
    omega
theorem class_shv {l : List UInt8} (hl : okCls l = true) (k : Nat) (hk : k < 5) : shv (clsL (keepB (shv l)) 7) k = shv l k := by
  have hne : clsL (keepB (shv l)) 7 ≠ [] := by
    cases l with
    | nil => cases hl
    | cons a l => exact List.ne_nil_of_mem (group_in hl (List.mem_cons_self ..))
  have hin : ∀ b ∈ clsL (keepB (shv l)) 7, shv l k = 0 ∨ shv l k = sg (nb b) k := by
    intro b hb
    obtain ⟨j, hj, hp, rfl⟩ := mem_clsL.1 hb
    rw [nb_byt (sndAt_ge j).1 (sndAt_ge j).2]
    exact (keep_iff _ _).1 hp k hk
  rcases (show shv l k = 0 ∨ shv l k = 1 ∨ shv l k = -1 by have := shc_range l k; unfold shc at this; rw [if_pos hl] at this; exact this) with h | h | h
  · obtain ⟨⟨a, ha, h1⟩, b, hb, h2⟩ := shv_zero h
    rw [h, shv_of_both (group_in hl ha) (group_in hl hb) h1 h2]
  · rw [h]
    refine shv_of_yes fun b hb => ?_
    rcases hin b hb with h3 | h3
    · omega
    · cases hx : hasF (nb b) k
      · rw [sg_no hx] at h3; omega
      · rfl
  · rw [h]
    refine shv_of_not hne fun b hb => ?_
    rcases hin b hb with h3 | h3
    · omega
    · cases hx : hasF (nb b) k
      · rfl
      · rw [sg_yes hx] at h3; omega
theorem ok_class {p : Int → Bool} (hne : clsL p 7 ≠ []) : okCls (clsL p 7) = true := by
  unfold okCls
  have h1 : (clsL p 7).isEmpty = false := by cases h : clsL p 7 with
    | nil => exact absurd h hne
    | cons _ _ => rfl
  have h2 := clsL_len p 7
  have h3 : (clsL p 7).all (fun b => isSnd (nb b)) = true := by
    rw [List.all_eq_true]
    intro b hb
    obtain ⟨k, hk, _, rfl⟩ := mem_clsL.1 hb
    rw [nb_byt (sndAt_ge k).1 (sndAt_ge k).2]
    exact isSnd_at _ k hk rfl
  rw [h1, h3]
  simp
  omega
theorem clsL_congr {p q : Int → Bool} (h : ∀ x, p x = q x) (j : Nat) : clsL p j = clsL q j := by
  rw [show p = q from funext h]
/-- A class of a class is the class. -/
theorem ncL_closed (l : List UInt8) : ncL (ncL l) = ncL l := by
  by_cases hl : okCls l = true
  · have e : ncL l = clsL (keepB (shv l)) 7 := by unfold ncL; rw [if_pos hl]
    have hne : clsL (keepB (shv l)) 7 ≠ [] := by
      cases l with
      | nil => cases hl
      | cons a l => exact List.ne_nil_of_mem (group_in hl (List.mem_cons_self ..))
    rw [e]
    unfold ncL
    rw [if_pos (ok_class hne)]
    refine clsL_congr (fun x => ?_) 7
    rw [Bool.eq_iff_iff, keep_iff, keep_iff]
    exact ⟨fun h k hk => by have := h k hk; rwa [class_shv hl k hk] at this, fun h k hk => by rw [class_shv hl k hk]; exact h k hk⟩
  · have e : ncL l = [] := by unfold ncL; rw [if_neg hl]
    rw [e]
    rfl
end Go.Proofs.YtpcggbpfpicjiaaDoor
