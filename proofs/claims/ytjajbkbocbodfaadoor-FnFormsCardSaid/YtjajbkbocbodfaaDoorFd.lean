/- Distances of forms are the same both ways; a neighbour is one step away: plain mathematics. -/
import Derived.Test.YtjajbkbocbodfaaDoorNi
namespace Go.Proofs.YtjajbkbocbodfaaDoor
open Go.RowKit M

theorem dst_ins (a b : ByteArray) (i k : Nat) : dst a b i (k + 1) ≤ dst a b i k + 1 := by
  cases i with
  | zero => simp [dst]
  | succ i => simp only [dst]; omega
theorem dst_del (a b : ByteArray) (i k : Nat) : dst a b (i + 1) k ≤ dst a b i k + 1 := by
  cases k with
  | zero => cases i <;> simp [dst]
  | succ k => simp only [dst]; omega
theorem dst_sub (a b : ByteArray) (i k : Nat) : dst a b (i + 1) (k + 1) ≤ dst a b i k + 1 := by
  simp only [dst]; split <;> omega
theorem dst_match (a b : ByteArray) (i k : Nat) (h : bAt a i = bAt b k) : dst a b (i + 1) (k + 1) ≤ dst a b i k := by
  simp only [dst]; rw [if_pos h]; omega
theorem dst_sym (a b : ByteArray) : ∀ i k, dst a b i k = dst b a k i
  | 0, 0 => by simp [dst]
  | 0, k + 1 => by simp [dst]
  | i + 1, 0 => by simp [dst]
  | i + 1, k + 1 => by
    have h1 := dst_sym a b i (k + 1)
    have h2 := dst_sym a b (i + 1) k
    have h3 := dst_sym a b i k
    simp only [dst]
    by_cases h : bAt a i = bAt b k
    · rw [if_pos h, if_pos h.symm]; omega
    · rw [if_neg h, if_neg (fun e => h e.symm)]; omega
theorem dst_same (a b : ByteArray) : ∀ i, (∀ j, j < i → bAt a j = bAt b j) → dst a b i i = 0
  | 0, _ => by simp [dst]
  | i + 1, h => by
    have h1 := dst_same a b i fun j hj => h j (by omega)
    have h2 := dst_match a b i i (h i (by omega))
    omega
theorem dst_none (a b : ByteArray) : ∀ i k, dst a b i k = 0 → i = k ∧ ∀ j, j < i → bAt a j = bAt b j
  | 0, k => by intro h; simp [dst] at h; exact ⟨h.symm, fun j hj => by omega⟩
  | i + 1, 0 => by intro h; simp [dst] at h
  | i + 1, k + 1 => by
    intro h
    by_cases he : bAt a i = bAt b k
    · simp only [dst] at h
      rw [if_pos he] at h
      obtain ⟨h1, h2⟩ := dst_none a b i k (by omega)
      subst h1
      refine ⟨rfl, fun j hj => ?_⟩
      by_cases hji : j = i
      · subst hji; exact he
      · exact h2 j (by omega)
    · simp only [dst] at h
      rw [if_neg he] at h
      omega
theorem bAt_eq_iff (a b : ByteArray) (hs : a.size = b.size) : (∀ j, j < a.size → bAt a j = bAt b j) ↔ a.data.toList = b.data.toList := by
  constructor
  · intro h
    apply List.ext_getElem
    · simpa using hs
    · intro j h1 h2
      have := h j (by simpa using h1)
      unfold bAt at this
      rw [List.getD_eq_getElem?_getD, List.getD_eq_getElem?_getD, List.getElem?_eq_getElem h1, List.getElem?_eq_getElem h2] at this
      simp only [Option.getD_some] at this
      exact UInt8.toNat_inj.1 (by omega)
  · intro h j _
    unfold bAt; rw [h]
theorem dst_zero_iff (a b : ByteArray) : dst a b a.size b.size = 0 ↔ a.toList = b.toList := by
  rw [Lib.toList_data, Lib.toList_data]
  constructor
  · intro h
    obtain ⟨h1, h2⟩ := dst_none a b _ _ h
    exact (bAt_eq_iff a b h1).1 h2
  · intro h
    have hs : a.size = b.size := by
      have := congrArg List.length h
      simpa using this
    rw [← hs]
    exact dst_same a b _ ((bAt_eq_iff a b hs).2 h)
theorem distV_sym (a b : ByteArray) : distV a b = distV b a := by
  unfold distV
  by_cases h : isFm a = true ∧ isFm b = true
  · rw [if_pos h, if_pos ⟨h.2, h.1⟩, dst_sym]
  · rw [if_neg h, if_neg fun c => h ⟨c.2, c.1⟩]
theorem distV_zero {a b : ByteArray} (h : 0 ≤ distV a b) : decide (distV a b = 0) = (a.toList == b.toList) := by
  unfold distV at h ⊢
  split at h
  · rename_i hf
    rw [if_pos hf, Bool.eq_iff_iff, decide_eq_true_iff, beq_iff_eq, ← dst_zero_iff]
    omega
  · omega
/-- The bytes of a neighbour. -/
theorem ins_list (s : ByteArray) (i j : Nat) : (insB s i j).data.toList = s.data.toList.take i ++ byt (sndAt j) :: s.data.toList.drop i := by
  unfold insB sndB
  simp [ByteArray.data_extract, ByteArray.data_append]
  exact List.take_of_length_le (by simp)
theorem del_list (s : ByteArray) (i : Nat) : (delB s i).data.toList = s.data.toList.take i ++ s.data.toList.drop (i + 1) := by
  unfold delB
  simp [ByteArray.data_extract, ByteArray.data_append]
  exact List.take_of_length_le (by simp)
theorem len_list (s : ByteArray) : s.data.toList.length = s.size := by simp
theorem ins_size (s : ByteArray) (i j : Nat) (h : i ≤ s.size) : (insB s i j).size = s.size + 1 := by
  have := congrArg List.length (ins_list s i j)
  rw [len_list, List.length_append, List.length_cons, List.length_take, List.length_drop, len_list] at this
  omega
theorem del_size (s : ByteArray) (i : Nat) (h : i < s.size) : (delB s i).size + 1 = s.size := by
  have := congrArg List.length (del_list s i)
  rw [len_list, List.length_append, List.length_take, List.length_drop, len_list] at this
  omega
theorem sub_size (s : ByteArray) (i j : Nat) (h : i < s.size) : (subB s i j).size = s.size := by
  have := congrArg List.length (sub_list s i j h)
  rw [len_list, List.length_set, len_list] at this
  exact this
theorem getD_ins (l : List UInt8) (i m : Nat) (y : UInt8) (h : i ≤ l.length) : (l.take i ++ y :: l.drop i).getD m 0 = if m < i then l.getD m 0 else if m = i then y else l.getD (m - 1) 0 := by
  have hl : (l.take i).length = i := by rw [List.length_take]; omega
  simp only [List.getD_eq_getElem?_getD]
  by_cases h1 : m < i
  · rw [if_pos h1, List.getElem?_append_left (by omega), List.getElem?_take_of_lt h1]
  · rw [if_neg h1, List.getElem?_append_right (by omega), hl]
    by_cases h2 : m = i
    · rw [if_pos h2, h2, Nat.sub_self]; rfl
    · obtain ⟨n, hn⟩ : ∃ n, m - i = n + 1 := ⟨m - i - 1, by omega⟩
      rw [if_neg h2, hn, List.getElem?_cons_succ, List.getElem?_drop, show i + n = m - 1 by omega]
theorem getD_del (l : List UInt8) (i m : Nat) (h : i ≤ l.length) : (l.take i ++ l.drop (i + 1)).getD m 0 = if m < i then l.getD m 0 else l.getD (m + 1) 0 := by
  have hl : (l.take i).length = i := by rw [List.length_take]; omega
  simp only [List.getD_eq_getElem?_getD]
  by_cases h1 : m < i
  · rw [if_pos h1, List.getElem?_append_left (by omega), List.getElem?_take_of_lt h1]
  · rw [if_neg h1, List.getElem?_append_right (by omega), hl, List.getElem?_drop, show i + 1 + (m - i) = m + 1 by omega]
theorem ins_at (s : ByteArray) (i j m : Nat) (h : i ≤ s.size) (hj : j < 7) : bAt (insB s i j) m = if m < i then bAt s m else if m = i then sndAt j else bAt s (m - 1) := by
  unfold bAt
  rw [ins_list, getD_ins _ _ _ _ (by rw [len_list]; exact h)]
  split
  · rfl
  · split
    · exact sound_byte j hj
    · rfl
theorem del_at (s : ByteArray) (i m : Nat) (h : i ≤ s.size) : bAt (delB s i) m = if m < i then bAt s m else bAt s (m + 1) := by
  unfold bAt
  rw [del_list, getD_del _ _ _ (by rw [len_list]; exact h)]
  split <;> rfl
theorem sub_at (s : ByteArray) (i j m : Nat) (h : i < s.size) (hj : j < 7) : bAt (subB s i j) m = if m = i then sndAt j else bAt s m := by
  unfold bAt
  rw [sub_list s i j h, List.getD_eq_getElem?_getD]
  by_cases hm : m = i
  · subst hm
    rw [if_pos rfl, List.getElem?_set_self (by rw [len_list]; exact h), Option.getD_some]
    exact sound_byte j hj
  · rw [if_neg hm, List.getElem?_set_ne (fun e => hm e.symm), List.getD_eq_getElem?_getD]
theorem dst_one {n : Nat} (h : n ≤ 1) (h0 : n ≠ 0) : n = 1 := by omega
theorem ins_one (s : ByteArray) (i j : Nat) (h : i ≤ s.size) (hj : j < 7) : dst s (insB s i j) s.size (insB s i j).size = 1 := by
  have key : ∀ t, i + t ≤ s.size → dst s (insB s i j) (i + t) (i + t + 1) ≤ 1 := by
    intro t
    induction t with
    | zero =>
      intro _
      have h1 := dst_ins s (insB s i j) i i
      have h2 := dst_same s (insB s i j) i fun m hm => by rw [ins_at s i j m h hj, if_pos hm]
      show dst s (insB s i j) i (i + 1) ≤ 1
      omega
    | succ t ih =>
      intro ht
      have h1 := dst_match s (insB s i j) (i + t) (i + t + 1) (by rw [ins_at s i j _ h hj, if_neg (by omega), if_neg (by omega)]; rfl)
      exact Nat.le_trans h1 (ih (by omega))
  have hs := ins_size s i j h
  have hk := key (s.size - i) (by omega)
  rw [show i + (s.size - i) = s.size by omega] at hk
  rw [hs]
  refine dst_one hk fun h0 => ?_
  have := (dst_none _ _ _ _ h0).1
  omega
theorem del_one (s : ByteArray) (i : Nat) (h : i < s.size) : dst s (delB s i) s.size (delB s i).size = 1 := by
  have key : ∀ t, i + t + 1 ≤ s.size → dst s (delB s i) (i + t + 1) (i + t) ≤ 1 := by
    intro t
    induction t with
    | zero =>
      intro _
      have h1 := dst_del s (delB s i) i i
      have h2 := dst_same s (delB s i) i fun m hm => by rw [del_at s i m (by omega), if_pos hm]
      show dst s (delB s i) (i + 1) i ≤ 1
      omega
    | succ t ih =>
      intro ht
      have h1 := dst_match s (delB s i) (i + t + 1) (i + t) (by rw [del_at s i _ (by omega), if_neg (by omega)])
      exact Nat.le_trans h1 (ih (by omega))
  have hs := del_size s i h
  have hk := key (s.size - 1 - i) (by omega)
  rw [show i + (s.size - 1 - i) + 1 = s.size by omega, show i + (s.size - 1 - i) = (delB s i).size by omega] at hk
  refine dst_one hk fun h0 => ?_
  have := (dst_none _ _ _ _ h0).1
  omega
theorem sub_one (s : ByteArray) (i j : Nat) (h : i < s.size) (hj : j < 7) (hn : ¬ bAt s i = sndAt j) : dst s (subB s i j) s.size (subB s i j).size = 1 := by
  have key : ∀ t, i + t + 1 ≤ s.size → dst s (subB s i j) (i + t + 1) (i + t + 1) ≤ 1 := by
    intro t
    induction t with
    | zero =>
      intro _
      have h1 := dst_sub s (subB s i j) i i
      have h2 := dst_same s (subB s i j) i fun m hm => by rw [sub_at s i j m h hj, if_neg (by omega)]
      show dst s (subB s i j) (i + 1) (i + 1) ≤ 1
      omega
    | succ t ih =>
      intro ht
      have h1 := dst_match s (subB s i j) (i + t + 1) (i + t + 1) (by rw [sub_at s i j _ h hj, if_neg (by omega)])
      exact Nat.le_trans h1 (ih (by omega))
  have hs := sub_size s i j h
  have hk := key (s.size - 1 - i) (by omega)
  rw [show i + (s.size - 1 - i) + 1 = s.size by omega] at hk
  rw [hs]
  refine dst_one hk fun h0 => ?_
  have := (dst_none _ _ _ _ h0).2 i h
  rw [sub_at s i j i h hj, if_pos rfl] at this
  exact hn this
theorem isFm_iff (s : ByteArray) : isFm s = true ↔ (∀ b ∈ s.data.toList, isSnd (nb b) = true) ∧ s.size ≤ 8 := by
  unfold isFm l2S
  rw [Bool.and_eq_true, Bool.and_eq_true, List.all_eq_true, decide_eq_true_iff, decide_eq_true_iff, len_list]
  constructor
  · rintro ⟨⟨h1, h2⟩, h3⟩; exact ⟨h1, by omega⟩
  · rintro ⟨h1, h2⟩; exact ⟨⟨h1, by omega⟩, by omega⟩
theorem snd_is (j : Nat) (hj : j < 7) : isSnd (nb (byt (sndAt j))) = true := by
  rcases (show j = 0 ∨ j = 1 ∨ j = 2 ∨ j = 3 ∨ j = 4 ∨ j = 5 ∨ j = 6 by omega) with rfl | rfl | rfl | rfl | rfl | rfl | rfl <;> rfl
theorem ins_form {s : ByteArray} (hf : isFm s = true) (h8 : s.size < 8) (i j : Nat) (h : i ≤ s.size) (hj : j < 7) : isFm (insB s i j) = true := by
  rw [isFm_iff] at hf ⊢
  refine ⟨fun b hb => ?_, by rw [ins_size s i j h]; omega⟩
  rw [ins_list, List.mem_append, List.mem_cons] at hb
  rcases hb with hb | rfl | hb
  · exact hf.1 b (List.mem_of_mem_take hb)
  · exact snd_is j hj
  · exact hf.1 b (List.mem_of_mem_drop hb)
theorem del_form {s : ByteArray} (hf : isFm s = true) (i : Nat) (h : i < s.size) : isFm (delB s i) = true := by
  rw [isFm_iff] at hf ⊢
  have hs := del_size s i h
  refine ⟨fun b hb => ?_, by omega⟩
  rw [del_list, List.mem_append] at hb
  rcases hb with hb | hb
  · exact hf.1 b (List.mem_of_mem_take hb)
  · exact hf.1 b (List.mem_of_mem_drop hb)
theorem sub_form {s : ByteArray} (hf : isFm s = true) (i j : Nat) (h : i < s.size) (hj : j < 7) : isFm (subB s i j) = true := by
  rw [isFm_iff] at hf ⊢
  refine ⟨fun b hb => ?_, by rw [sub_size s i j h]; exact hf.2⟩
  rw [sub_list s i j h] at hb
  rcases List.mem_or_eq_of_mem_set hb with hb | rfl
  · exact hf.1 b hb
  · exact snd_is j hj
theorem ded_mem {x : ByteArray} : ∀ l : List ByteArray, x ∈ ded l → x ∈ l := by
  have key : ∀ (l a : List ByteArray), x ∈ l.foldl addN a → x ∈ a ∨ x ∈ l := by
    intro l
    induction l with
    | nil => intro a h; exact .inl h
    | cons y l ih =>
      intro a h
      rcases ih _ h with h | h
      · unfold addN at h
        split at h
        · exact .inl h
        · rw [List.mem_append, List.mem_singleton] at h
          rcases h with h | rfl
          · exact .inl h
          · exact .inr (List.mem_cons_self ..)
      · exact .inr (List.mem_cons_of_mem _ h)
  intro l h
  rcases key l [] h with h | h
  · cases h
  · exact h
/-- What is one step away. -/
def OneAway (s x : ByteArray) : Prop := isFm x = true ∧ dst s x s.size x.size = 1
theorem itJ_away {s : ByteArray} (hf : isFm s = true) (h8 : s.size < 8) (i : Nat) (h : i ≤ s.size) : ∀ j, j ≤ 7 → ∀ x ∈ itJ s i j, OneAway s x
  | 0, _ => fun x hx => by simp [itJ] at hx
  | j + 1, hj => fun x hx => by
    rw [itJ, List.mem_append, List.mem_append, List.mem_singleton] at hx
    rcases hx with (hx | rfl) | hx
    · exact itJ_away hf h8 i h j (by omega) x hx
    · exact ⟨ins_form hf h8 i j h (by omega), ins_one s i j h (by omega)⟩
    · unfold itS at hx
      split at hx
      · rename_i hc
        rw [List.mem_singleton] at hx
        subst hx
        exact ⟨sub_form hf i j hc.1 (by omega), sub_one s i j hc.1 (by omega) hc.2⟩
      · cases hx
theorem itTo_away {s : ByteArray} (hf : isFm s = true) (h8 : s.size < 8) : ∀ k, k ≤ s.size + 1 → ∀ x ∈ itTo s k, OneAway s x
  | 0, _ => fun x hx => by simp [itTo] at hx
  | k + 1, hk => fun x hx => by
    rw [itTo, List.mem_append] at hx
    rcases hx with hx | hx
    · exact itTo_away hf h8 k (by omega) x hx
    · unfold itI at hx
      split at hx
      · rename_i hc
        rw [List.mem_append, List.mem_singleton] at hx
        rcases hx with hx | rfl
        · exact itJ_away hf h8 k (by omega) 7 (by omega) x hx
        · exact ⟨del_form hf k hc, del_one s k hc⟩
      · exact itJ_away hf h8 k (by omega) 7 (by omega) x hx
theorem nbL_one (s x : ByteArray) (hx : x ∈ nbL s) : distV s x = 1 := by
  unfold nbL at hx
  split at hx
  · rename_i hc
    rw [← ded_To] at hx
    obtain ⟨h1, h2⟩ := itTo_away hc.1 hc.2 (s.size + 1) (Nat.le_refl _) x (ded_mem _ hx)
    unfold distV
    rw [if_pos ⟨hc.1, h1⟩, h2]; rfl
  · cases hx
end Go.Proofs.YtjajbkbocbodfaaDoor
