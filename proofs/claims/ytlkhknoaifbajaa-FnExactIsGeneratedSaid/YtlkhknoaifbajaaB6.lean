/- Merged: Rc4 Rc5 Rc6 Rc7. -/
import Derived.Test.YtlkhknoaifbajaaB3
import Derived.Conc.AppendWalk
import Derived.Test.YtlkhknoaifbajaaB4
import Derived.Test.YtlkhknoaifbajaaB5
/- GOROUTINE 0: blocks of the receiver's own; the row that it grows. -/
namespace Go.Proofs.Ytlkhknoaifbajaa
open Go.Conc Go.RowKit M
set_option linter.unusedVariables false
set_option linter.unusedSimpArgs false
set_option maxRecDepth 100000

/-- What a step of the receiver's may list: accesses to blocks of its own, marks that name no place. -/
def EvO (B0 : Nat) (T : Cls) (w : World) (e : Event) : Prop := (∃ ad, e.loc = .cell ad ∧ B0 ≤ ad.block ∧ isC T w ad.block) ∨ ∃ m, e = ⟨.mark m, false, true⟩ ∧ Neutral m
theorem isC_lt {T : Cls} {w : World} {b : Nat} (h : isC T w b) : b < w.heap.size := by
  obtain ⟨cs, ty, fz, h, _⟩ := h
  exact heap_low h
theorem isC1 {T : Cls} {w : World} {b : Nat} {cs : Array Value} {t : TypeId} {fz : Nat × Nat} (h : w.heap[b]? = some (.cells cs t fz)) (hT : T cs t b) : isC T w b := ⟨cs, t, fz, h, hT⟩
section
variable {B0 c : Nat} {T : Cls} {Got : Nat → Prop} {w w' : World} {e : Event}
theorem evO_ok (h : EvO B0 T w e) : EvF w.heap.size e ∧ ∀ x, (MemAct.ofEvent e).touch? = some x → x.loc.isMemory = true → MayC B0 (isC T w) Got x := by
  rcases h with ⟨ad, hl, hB, hC⟩ | ⟨m, rfl, hm⟩
  · obtain ⟨loc, wr, sy⟩ := e
    subst hl
    refine ⟨evF_cell _ _ (isC_lt hC), fun x hx _ => ?_⟩
    have : x.loc = .cell ad := by
      cases wr <;> cases sy <;> (simp only [MemAct.ofEvent, MemAct.touch?, Option.some.injEq] at hx; subst hx; rfl)
    exact ⟨ad.block, by rw [this]; rfl, .inr ⟨hB, .inl hC⟩⟩
  · refine ⟨evF_mark _ _ (.inl hm), fun x hx _ => ?_⟩
    have := hm.touch
    rw [show MemAct.ofEvent ⟨.mark m, false, true⟩ = .mark m from rfl, this] at hx
    cases hx
/-- A block of one's own is made. -/
theorem dc_alloc (o : Obj) {es : Array Event} (he : ∀ e ∈ es, EvO B0 T (w.alloc o) e) : DC B0 T Got w (w.alloc o) es := by
  refine ⟨⟨rfl, rfl, rfl, by simp, fun k hk => ?_⟩, fun k hk _ => heap_alloc_old w o hk, fun e h => evO_ok (he e h)⟩
  unfold isC; rw [heap_alloc_old w o hk]
theorem dc_drew (o : Obj) {es : Array Event} (he : ∀ e ∈ es, EvO B0 T (w.drew.alloc o) e) : DC B0 T Got w (w.drew.alloc o) es := by
  refine ⟨⟨rfl, rfl, rfl, by simp, fun k hk => ?_⟩, fun k hk _ => heap_alloc_old w.drew o hk, fun e h => evO_ok (he e h)⟩
  unfold isC; rw [heap_alloc_old w.drew o hk]; exact Iff.rfl
/-- Nothing turns. -/
theorem dc_same {es : Array Event} (he : ∀ e ∈ es, EvO B0 T w e) : DC B0 T Got w w es := ⟨Grow.refl T w, fun _ _ _ => rfl, fun e h => evO_ok (he e h)⟩
/-- A block of one's own is written. -/
theorem dc_row {b : Nat} {cs cs' : Array Value} {t : TypeId} {es : Array Event} (hb : w.heap[b]? = some (.cells cs t (0, 0))) (hB : B0 ≤ b) (hT : T cs t b) (hT' : T cs' t b) (he : ∀ e ∈ es, EvO B0 T (w.setRow b cs') e) : DC B0 T Got w (w.setRow b cs') es := by
  have h1 := setRow_heap w b cs cs' t (0, 0) hb
  have hcl : ∀ k, isC T (w.setRow b cs') k ↔ isC T w k := fun k => by
    by_cases e : k = b
    · subst e; exact ⟨fun _ => isC1 hb hT, fun _ => isC1 h1 hT'⟩
    · unfold isC; rw [setRow_other w b k cs' e]
  refine ⟨⟨rfl, rfl, rfl, Nat.le_of_eq (setRow_size _ _ _).symm, fun k _ => hcl k⟩, fun k hk hx => setRow_other w b k cs' ?_, fun e h => evO_ok (he e h)⟩
  rintro rfl
  rcases hx with h | h
  · omega
  · exact h (isC1 hb hT)
end
/-- A block of the receiver's. -/
structure RB (B0 : Nat) (O : Nat → Prop) (w : World) (b : Nat) (cs : List Value) (t : TypeId) : Prop where
  blk : w.heap[b]? = some (.cells cs.toArray t (0, 0))
  cl : t ≠ 105 ∧ t ≠ 65 ∧ O b
  low : B0 ≤ b
/-- A row that the receiver grows: candidates whose links lie where the sender laid them. -/
structure LS (B0 : Nat) (O Got : Nat → Prop) (w : World) (v : Value) (l : List (List DLink)) (ps : List Nat) : Prop where
  len : ps.length = l.length
  nd : ps.Nodup
  own : w.ownsRow B0 26 1 v l.length ((l.zip ps).map fun x => .slice (some ⟨x.2, 0, none⟩) x.1.length x.1.length)
  mine : ∀ g, v.ownBlock = some g → O g
  el : ∀ (k p : Nat) (m : List DLink), ps[k]? = some p → l[k]? = some m → B0 ≤ p ∧ Got p ∧ InC w p (m.flatMap lkV).toArray 65
section
variable {B0 c : Nat} {O Got Got' : Nat → Prop} {w w' : World} {b : Nat} {cs : List Value} {t : TypeId} {v : Value} {l : List (List DLink)} {ps : List Nat}
theorem RB.isC (h : RB B0 O w b cs t) : isC (TO O) w b := isC1 h.blk ⟨h.cl.1, h.cl.2.1, h.cl.2.2⟩
theorem RB.lt (h : RB B0 O w b cs t) : b < w.heap.size := heap_low h.blk
theorem RB.rely (h : RB B0 O w b cs t) (hc : c < B0) (r : RelyC B0 c (TO O) Got w w') : RB B0 O w' b cs t := ⟨(r.2 b h.lt (by have := h.low; omega) (.inr (.inl h.isC))).trans h.blk, h.cl, h.low⟩
theorem RB.keep (h : RB B0 O w b cs t) (hk : w'.heap[b]? = w.heap[b]?) : RB B0 O w' b cs t := ⟨hk.trans h.blk, h.cl, h.low⟩
theorem RB.cell (h : RB B0 O w b cs t) (j : Nat) {u : Value} (hu : cs[j]? = some u) : w.cell? ⟨b, j, none⟩ = some u := InC.cell h.blk j (by simpa using hu)
theorem RB.free (h : RB B0 O w b cs t) (j : Nat) : w.frozen? ⟨b, j, none⟩ = false := InC.free h.blk j
theorem RB.new (hB : B0 ≤ w.heap.size) (hT : t ≠ 105 ∧ t ≠ 65) (hO : O w.heap.size) : RB B0 O (w.alloc (.cells cs.toArray t)) w.heap.size cs t := ⟨heap_alloc_new w _, ⟨hT.1, hT.2, hO⟩, hB⟩
theorem RB.ev (h : RB B0 O w b cs t) {e : Event} {ad : Addr} (hl : e.loc = .cell ad) (hb : ad.block = b) : EvO B0 (TO O) w e := .inl ⟨ad, hl, by rw [hb]; exact h.low, by rw [hb]; exact h.isC⟩
theorem LS.nil (w : World) : LS B0 O Got w (.slice none 0 0) [] [] := ⟨rfl, List.nodup_nil, ⟨rfl, .inl ⟨rfl, rfl⟩⟩, fun g h => (by cases h), fun k p m h => (by simp at h)⟩
theorem LS.keep (h : LS B0 O Got w v l ps) (hg : ∀ g, v.ownBlock = some g → w'.heap[g]? = w.heap[g]?) (hp : ∀ p, p ∈ ps → w'.heap[p]? = w.heap[p]?) (hG : ∀ b, Got b → Got' b) : LS B0 O Got' w' v l ps := by
  refine ⟨h.len, h.nd, ⟨h.own.1, ?_⟩, h.mine, fun k p m h1 h2 => ?_⟩
  · rcases h.own.2 with h3 | ⟨g, cap, cur, hv, hb, hh, r⟩
    · exact .inl h3
    · exact .inr ⟨g, cap, cur, hv, hb, (hg g (by rw [hv]; rfl)).trans hh, r⟩
  · obtain ⟨h3, h4, h5⟩ := h.el k p m h1 h2
    exact ⟨h3, hG p h4, (hp p (List.mem_of_getElem? h1)).trans h5⟩
theorem LS.at (h : LS B0 O Got w v l ps) {p : Nat} (hp : p ∈ ps) : B0 ≤ p ∧ Got p ∧ p < w.heap.size ∧ ∃ cs, w.heap[p]? = some (.cells cs 65 (0, 0)) := by
  obtain ⟨k, hk, rfl⟩ := List.getElem_of_mem hp
  obtain ⟨h1, h2, h3⟩ := h.el k _ _ (List.getElem?_eq_getElem hk) (List.getElem?_eq_getElem (by have := h.len; omega))
  exact ⟨h1, h2, heap_low h3, _, h3⟩
theorem LS.own_at (h : LS B0 O Got w v l ps) {g : Nat} (hg : v.ownBlock = some g) : B0 ≤ g ∧ g < w.heap.size ∧ Go.Proofs.Ytlkhknoaifbajaa.isC (TO O) w g ∧ ∃ cur, w.heap[g]? = some (.cells cur 26 (0, 0)) := by
  rcases h.own.2 with ⟨h3, _⟩ | ⟨g', cap, cur, hv, hb, hh, r⟩
  · rw [h3] at hg; cases hg
  · rw [hv] at hg
    obtain rfl : g' = g := by simpa [Value.ownBlock] using hg
    exact ⟨hb, heap_low hh, isC1 hh ⟨by decide, by decide, h.mine g' (by rw [hv]; rfl)⟩, cur, hh⟩
theorem LS.rely (h : LS B0 O Got w v l ps) (hc : c < B0) (r : RelyC B0 c (TO O) Got w w') : LS B0 O Got w' v l ps := by
  refine h.keep (fun g hg => ?_) (fun p hp => ?_) fun _ x => x
  · obtain ⟨h1, h2, h3, _⟩ := h.own_at hg
    exact r.2 g h2 (by omega) (.inr (.inl h3))
  · obtain ⟨h1, h2, h3, _⟩ := h.at hp
    exact r.2 p h3 (by omega) (.inr (.inr h2))
/-- Over a step that turns no old block but b. -/
theorem LS.step (h : LS B0 O Got w v l ps) (b : Nat) (hk : ∀ k, k < w.heap.size → k ≠ b → w'.heap[k]? = w.heap[k]?) (hb : ∀ g, v.ownBlock = some g → g ≠ b) (hp : b ∉ ps) : LS B0 O Got w' v l ps :=
  h.keep (fun g hg => hk g (h.own_at hg).2.1 (hb g hg)) (fun p hpp => hk p (h.at hpp).2.2.1 (fun e => hp (e ▸ hpp))) fun _ x => x
end
/-- Whether one element more has room. -/
def room : Value → Bool
  | .slice (some _) n cap => decide (n + 1 ≤ cap)
  | _ => false
/-- 'append(list, c)', in company. -/
theorem ls_append {B0 c : Nat} {O Got : Nat → Prop} {w : World} {v : Value} {l : List (List DLink)} {ps : List Nat} {tb p : Nat} {m : List DLink} (ty : TypeId) (hB : B0 ≤ w.heap.size) (h : LS B0 O Got w v l ps) (ht : RB B0 O w tb [.slice (some ⟨p, 0, none⟩) m.length m.length] 26)
    (hpB : B0 ≤ p) (hpG : Got p) (hpI : InC w p (m.flatMap lkV).toArray 65) (hpn : p ∉ ps) (hl : l.length ≤ 100000) :
    ∃ v' w', (Builtin.append_ #[35, 35] ty #[v, .slice (some ⟨tb, 0, none⟩) 1 1]).run Try.prog w = .ok v' w' ∧
      ((room v = true ∧ (∀ es : Array Event, (∀ e ∈ es, e ∈ (Builtin.append_ #[35, 35] ty #[v, .slice (some ⟨tb, 0, none⟩) 1 1]).events Try.prog w #[]) → DC B0 (TO O) Got w w' es) ∧ LS B0 O Got w' v' (l ++ [m]) (ps ++ [p])) ∨
       (room v = false ∧ w'.heap.size = w.heap.size + 1 ∧ (O w.heap.size → (∀ es : Array Event, (∀ e ∈ es, e ∈ (Builtin.append_ #[35, 35] ty #[v, .slice (some ⟨tb, 0, none⟩) 1 1]).events Try.prog w #[]) → DC B0 (TO O) Got w w' es) ∧ LS B0 O Got w' v' (l ++ [m]) (ps ++ [p])))) := by
  obtain ⟨i3, hi3, qz3, qz4, qz5⟩ := info_parts infoCdW
  have hnews : ∀ j u, [Value.slice (some ⟨p, 0, none⟩) m.length m.length][j]? = some u → w.cell? ((⟨tb, 0, none⟩ : Addr).add j) = some u := fun j u hu => by
    match j, hu with
    | 0, hu => simpa [Addr.add] using ht.cell 0 (by simpa using hu)
  have h1c : ∀ u ∈ [Value.slice (some ⟨p, 0, none⟩) m.length m.length], u.oneCell' = true := by simp [Value.oneCell']
  have h63 : l.length + 1 ≤ maxLen := by unfold maxLen; omega
  have hbyt : (l.length + 1) * 24 ≤ 140737488355328 := by omega
  obtain ⟨v', w', hr, ho, _, _⟩ := run_append_own (P := Try.prog) w B0 35 ty 26 i3 (.agg #[.slice none 0 0]) 1 24 Try.underlying35 hi3 qz3 qz4 qz5 rfl (by decide) v l.length _ h.own ⟨tb, 0, none⟩ 1 1 _ rfl hnews h1c h63 hbyt hB
  have hev := events_append_where (P := Try.prog) w B0 35 ty 26 i3 (.agg #[.slice none 0 0]) 1 24 Try.underlying35 hi3 qz3 qz4 qz5 v l.length _ h.own ⟨tb, 0, none⟩ 1 1 _ rfl hnews h1c h63 hbyt
  have hzip : (l.zip ps).map (fun x => Value.slice (some ⟨x.2, 0, none⟩) x.1.length x.1.length) ++ [Value.slice (some ⟨p, 0, none⟩) m.length m.length] = ((l ++ [m]).zip (ps ++ [p])).map fun x => Value.slice (some ⟨x.2, 0, none⟩) x.1.length x.1.length := by
    rw [List.zip_append h.len.symm]; simp
  rw [hzip] at ho
  have hpost : (∀ k, k < w.heap.size → v.ownBlock ≠ some k → w'.heap[k]? = w.heap[k]?) → (∀ g, v'.ownBlock = some g → O g) → LS B0 O Got w' v' (l ++ [m]) (ps ++ [p]) := fun hkeep hmine => by
    have hne : ∀ q, (∃ cs, w.heap[q]? = some (.cells cs 65 (0, 0))) → v.ownBlock ≠ some q := fun q ⟨cs, hq⟩ hg => by
      obtain ⟨_, _, _, cur, hcur⟩ := h.own_at hg
      rw [hq] at hcur
      have := (Obj.cells.inj (Option.some.inj hcur)).2.1
      exact absurd this (by decide)
    refine ⟨by simp [h.len], ?_, by simpa using ho, hmine, fun k q x h1 h2 => ?_⟩
    · rw [List.nodup_append]
      exact ⟨h.nd, by simp, fun a ha b hb => by simp at hb; subst hb; rintro rfl; exact hpn ha⟩
    · by_cases hk : k < ps.length
      · rw [List.getElem?_append_left hk] at h1
        rw [List.getElem?_append_left (by rw [← h.len]; exact hk)] at h2
        obtain ⟨h3, h4, h5⟩ := h.el k q x h1 h2
        exact ⟨h3, h4, (hkeep q (heap_low h5) (hne q ⟨_, h5⟩)).trans h5⟩
      · have hk1 : k < (ps ++ [p]).length := (List.getElem?_eq_some_iff.1 h1).1
        obtain rfl : k = ps.length := by simp at hk1; omega
        simp at h1
        rw [h.len] at h2
        simp at h2
        subst h1; subst h2
        exact ⟨hpB, hpG, (hkeep _ (heap_low hpI) (hne _ ⟨_, hpI⟩)).trans hpI⟩
  have hevO : ∀ (W : World), (∀ b, isC (TO O) w b → isC (TO O) W b) → ∀ e ∈ (Builtin.append_ #[35, 35] ty #[v, .slice (some ⟨tb, 0, none⟩) 1 1]).events Try.prog w #[], EvO B0 (TO O) W e := fun W hW e he => by
    rcases hev e he with ⟨ad, hl, hx⟩ | hx
    · rcases hx with ⟨_, hx⟩ | hx
      · exact .inl ⟨ad, hl, by rw [hx]; exact ht.low, by rw [hx]; exact hW _ ht.isC⟩
      · obtain ⟨h3, _, h4, _⟩ := h.own_at hx.symm
        exact .inl ⟨ad, hl, h3, hW _ h4⟩
    · exact .inr hx
  refine ⟨v', w', hr, ?_⟩
  have hgr : ∀ (o : Obj), (∀ b, isC (TO O) w b → isC (TO O) (w.drew.alloc o) b) := fun o b hb => by
    have hlt := isC_lt hb
    obtain ⟨cs, ty, fz, h1, h2⟩ := hb
    exact ⟨cs, ty, fz, (heap_alloc_old w.drew o hlt).trans h1, h2⟩
  rcases h.own.2 with ⟨hv, h0⟩ | ⟨g, cap, cur, hv, hb, hh, hnc, hcm, hcs, htake⟩
  · right
    subst hv
    rw [run_append_nil (P := Try.prog) (w := w) 35 ty 26 i3 (.agg #[.slice none 0 0]) Try.underlying35 hi3 qz3 ⟨tb, 0, none⟩ 1 1 _ (by rw [qz4]; rfl) hnews (by omega) (by omega) (by rw [qz5]; omega)] at hr
    obtain ⟨rfl, rfl⟩ := Result.ok.inj hr
    refine ⟨rfl, by simp, fun hO => ⟨fun es he => dc_drew _ fun e x => hevO _ (hgr _) e (he e x), hpost (fun k hk _ => heap_alloc_old w.drew _ hk) fun g hg => ?_⟩⟩
    simp [Value.ownBlock] at hg
    rw [← hg]; exact hO
  · by_cases hroom : l.length + 1 ≤ cap
    · left
      subst hv
      rw [run_append_room (P := Try.prog) w 35 ty 26 i3 Try.underlying35 hi3 g l.length cap cur hh ⟨tb, 0, none⟩ 1 1 _ (by rw [qz4]; rfl) hnews h1c hroom (by rw [qz4, hcs]; simp; omega)] at hr
      obtain ⟨rfl, rfl⟩ := Result.ok.inj hr
      have hT : ∀ cs, TO O cs 26 g := fun cs => ⟨by decide, by decide, h.mine g rfl⟩
      refine ⟨by simp [room, hroom], fun es he => dc_row hh hb (hT _) (hT _) fun e x => hevO _ (fun b hb => ?_) e (he e x), hpost (fun k hk hne => setRow_other w g k _ fun e => hne (by rw [e]; rfl)) fun g' hg => h.mine g' hg⟩
      by_cases e : b = g
      · subst e; exact isC1 (setRow_heap w b _ _ _ _ hh) (hT _)
      · obtain ⟨cs, ty, fz, h1, h2⟩ := hb
        exact ⟨cs, ty, fz, (setRow_other w g b _ e).trans h1, h2⟩
    · right
      subst hv
      have holds : ∀ j u, ((l.zip ps).map fun x => Value.slice (some ⟨x.2, 0, none⟩) x.1.length x.1.length)[j]? = some u → w.cell? ((⟨g, 0, none⟩ : Addr).add j) = some u := h.own.cells (g := g) rfl
      rw [run_append_grow (P := Try.prog) (w := w) 35 ty 26 i3 (.agg #[.slice none 0 0]) Try.underlying35 hi3 qz3 ⟨g, 0, none⟩ l.length cap _ (by rw [qz4]; exact h.own.1) holds ⟨tb, 0, none⟩ 1 1 _ (by rw [qz4]; rfl) hnews (by omega) (by omega) (by rw [qz5]; exact growslice_fits (by omega) (by omega))] at hr
      obtain ⟨rfl, rfl⟩ := Result.ok.inj hr
      refine ⟨by simp [room, hroom], by simp, fun hO => ⟨fun es he => dc_drew _ fun e x => hevO _ (hgr _) e (he e x), hpost (fun k hk _ => heap_alloc_old w.drew _ hk) fun g hg => ?_⟩⟩
      simp [Value.ownBlock] at hg
      rw [← hg]; exact hO
theorem lkV_at4 (ls : List DLink) (k : Nat) {x : DLink} (hk : ls[k]? = some x) : ∀ (j : Nat) (u : Value), (lkV x)[j]? = some u → (ls.flatMap lkV)[k * 2 + j]? = some u := by
  induction ls generalizing k with
  | nil => simp at hk
  | cons y ls ih =>
    intro j u hj
    have h2 : (lkV y).length = 2 := rfl
    cases k with
    | zero =>
      simp at hk
      subst hk
      have hjl := (List.getElem?_eq_some_iff.1 hj).1
      rw [List.flatMap_cons, List.getElem?_append_left (by omega)]
      simpa using hj
    | succ k =>
      rw [List.getElem?_cons_succ] at hk
      rw [List.flatMap_cons, List.getElem?_append_right (by omega), h2, show (k + 1) * 2 + j - 2 = k * 2 + j by omega]
      exact ih k hk j u hj
/-- Links in a block of their own. -/
theorem row_links {w : World} {p : Nat} {m : List DLink} (h : InC w p (m.flatMap lkV).toArray 65) (hm : m.length ≤ 1000) : RowRd rLink true w (.slice (some ⟨p, 0, none⟩) m.length m.length) m (fun a => a.block = p) := by
  refine ⟨some ⟨p, 0, none⟩, m.length, fun _ _ => False, rfl, ⟨by omega, fun h => by cases h⟩, fun k x hk => ⟨p, 0, lkV x, rfl, rLink_mk, fun a ha => ha.elim, fun j u hj => ⟨?_, rfl, fun _ => h.free _⟩, fun _ => ⟨fun i _ hf => hf, fun k' _ _ a ha => ha.elim⟩⟩⟩
  rw [show rLink.size = 2 from rfl, Nat.zero_add]
  exact h.cell _ (by simpa using lkV_at4 m k hk j u hj)
/-- The row, laid open to whoever asks for data. -/
theorem LS.row {B0 : Nat} {O Got : Nat → Prop} {w : World} {v : Value} {l : List (List DLink)} {ps : List Nat} (h : LS B0 O Got w v l ps) (hl : l.length ≤ 100000) (hm : ∀ m ∈ l, m.length ≤ 1000) : RowRd rCandidate true w v (cdL l) (fun a => B0 ≤ a.block) := by
  rcases h.own.2 with ⟨hv, h0⟩ | ⟨g, cap, cur, hv, hb, hh, hnc, hcm, hcs, htake⟩
  · obtain rfl : l = [] := List.eq_nil_of_length_eq_zero h0
    subst hv
    exact RowRd.nil _ _ _
  · subst hv
    obtain ⟨pf, hpf⟩ : ∃ pf : Nat → Nat, ∀ k, k < l.length → ps[k]? = some (pf k) := ⟨fun k => ps.getD k 0, fun k hk => by
      have : k < ps.length := by rw [h.len]; exact hk
      simp [List.getD_eq_getElem?_getD, List.getElem?_eq_getElem this]⟩
    refine ⟨some ⟨g, 0, none⟩, cap, fun k a => a.block = pf k, by rw [cdL_len], ⟨by rw [cdL_len]; omega, fun h => by cases h⟩, fun k x hk => ?_⟩
    obtain ⟨m, hkm, rfl⟩ : ∃ m, l[k]? = some m ∧ x = ⟨m⟩ := by
      unfold cdL at hk
      rw [List.getElem?_map] at hk
      cases e : l[k]? with
      | none => rw [e] at hk; cases hk
      | some m => rw [e] at hk; exact ⟨m, rfl, (Option.some.inj hk).symm⟩
    have hkl : k < l.length := (List.getElem?_eq_some_iff.1 hkm).1
    have hkp := hpf k hkl
    obtain ⟨h3, h4, h5⟩ := h.el k _ m hkp hkm
    have hcell : ((l.zip ps).map fun x => Value.slice (some ⟨x.2, 0, none⟩) x.1.length x.1.length)[k]? = some (.slice (some ⟨pf k, 0, none⟩) m.length m.length) := by
      have hz : (l.zip ps)[k]? = some (m, pf k) := List.getElem?_zip_eq_some.2 ⟨hkm, hkp⟩
      rw [List.getElem?_map, hz]; rfl
    have hpg : ∀ k', k' < l.length → pf k' ≠ g := fun k' hk' e => by
      have h1 := hpf k' hk'
      obtain ⟨_, _, h7⟩ := h.el k' _ _ h1 (List.getElem?_eq_getElem hk')
      rw [e] at h7
      unfold InC at h7
      rw [hh] at h7
      exact absurd (Obj.cells.inj (Option.some.inj h7)).2.1 (by decide)
    refine ⟨g, 0, [.slice (some ⟨pf k, 0, none⟩) m.length m.length], rfl, rCandidate_mk (x := ⟨m⟩) (row_links h5 (hm m (List.mem_of_getElem? hkm))), fun a ha => by have ha' : a.block = pf k := ha; show B0 ≤ a.block; rw [ha']; exact h3, fun j u hj => ?_, fun _ => ⟨fun i hi hf => hpg k hkl (by simpa using hf.symm), fun k' hk' hne a ha hf => ?_⟩⟩
    · match j, hj with
      | 0, hj =>
        simp at hj
        subst hj
        rw [show rCandidate.size = 1 from rfl, Nat.zero_add, Nat.mul_one, Nat.add_zero]
        refine ⟨?_, hb, fun _ => frozen_of_row w g k _ _ hh⟩
        have := h.own.cells (g := g) rfl k _ hcell
        unfold Addr.add at this
        split at this
        · rename_i h0; have e0 : k = 0 := by omega
          rw [e0] at this ⊢; exact this
        · simpa using this
    · rw [cdL_len] at hk'
      have h1 := hpf k' hk'
      have e : pf k = pf k' := ha.symm.trans hf
      rw [e] at hkp
      have hi1 := (List.getElem?_eq_some_iff.1 hkp)
      have hi2 := (List.getElem?_eq_some_iff.1 h1)
      exact hne ((List.getElem_inj h.nd).1 (hi2.choose_spec.trans hi1.choose_spec.symm))
end Go.Proofs.Ytlkhknoaifbajaa

/- GOROUTINE 0: listOf: what comes over the channel is laid in a row. -/
namespace Go.Proofs.Ytlkhknoaifbajaa
open Go.Conc Go.RowKit M
set_option linter.unusedVariables false
set_option linter.unusedSimpArgs false
set_option maxRecDepth 100000

/-- What listOf holds of the world. -/
structure S75 (B0 c : Nat) (O Got : Nat → Prop) (w2 w : World) (v : Value) (l : List (List DLink)) (ps : List Nat) : Prop where
  old : OldC B0 c w2 w
  ls : LS B0 O Got w v l ps
section
variable {B0 c : Nat} {O Got : Nat → Prop} {w2 w w' : World} {v : Value} {l : List (List DLink)} {ps : List Nat}
theorem S75.low (h : S75 B0 c O Got w2 w v l ps) : B0 ≤ w.heap.size := Nat.le_trans h.old.b0 h.old.size
theorem S75.rely (h : S75 B0 c O Got w2 w v l ps) (hc : c < B0) (r : RelyC B0 c (TO O) Got w w') : S75 B0 c O Got w2 w' v l ps := ⟨h.old.rely r, h.ls.rely hc r⟩
theorem S75.alloc (h : S75 B0 c O Got w2 w v l ps) (o : Obj) : S75 B0 c O Got w2 (w.alloc o) v l ps :=
  ⟨h.old.dc (dc_alloc (T := TO O) (Got := Got) o (es := #[]) (by simp)), h.ls.step w.heap.size (fun k hk _ => heap_alloc_old w o hk) (fun g hg => by have := (h.ls.own_at hg).2.1; omega) fun hp => by have := (h.ls.at hp).2.2.1; omega⟩
theorem S75.row (h : S75 B0 c O Got w2 w v l ps) {b : Nat} {cs : List Value} {t : TypeId} (hb : RB B0 O w b cs t) (cs' : Array Value) (hg : ∀ g, v.ownBlock = some g → g ≠ b) : S75 B0 c O Got w2 (w.setRow b cs') v l ps :=
  ⟨h.old.dc (dc_row (T := TO O) (Got := Got) hb.blk hb.low hb.cl hb.cl (es := #[]) (by simp)), h.ls.step b (fun k _ hk => setRow_other w b k _ hk) hg fun hp => by
    obtain ⟨_, _, _, cs2, h2⟩ := h.ls.at hp
    have := hb.blk
    rw [h2] at this
    exact hb.cl.2.1 (Obj.cells.inj (Option.some.inj this)).2.1.symm⟩
end
noncomputable def body75 : Code := Try.f75.body.getD .skip
noncomputable def X75 : Code := match Try.f75.body with | some (.seq _ (.seq _ (.seq (.seq _ (.block _ (.loop x))) _))) => x | _ => .skip
def T75 (c : Nat) (v : Value) (x : Array Value) : Array Value := #[.chan (some c), undef, .slice none 0 0, v, x.getD 0 undef, .chan (some c), x.getD 1 undef, x.getD 2 undef, x.getD 3 undef, x.getD 4 undef, x.getD 5 undef, x.getD 6 undef, x.getD 7 undef, undef]
theorem fill_cd (u : Value) : Instr.fill (fun i => some (i, 1)) (Array.map (fun x => (Value.agg #[.slice none 0 0]).cells[x % (Value.agg #[.slice none 0 0]).cells.size]!) (Array.range 1)) [(0, Value.agg #[u])] = some #[u] := by
  first | kernel_rfl | (simp [Instr.fill, Value.cells]; done) | (cases u <;> kernel_rfl)
theorem run_cd1 (w : World) (u : Value) : (Instr.buildSlice 35 1 #[(0, .agg #[u])]).run Try.prog w = .ok (.slice (some ⟨w.heap.size, 0, none⟩) 1 1) (w.alloc (.cells #[u] 26)) := by
  obtain ⟨i0, hi, hz0, hz1, hz2⟩ := info_parts infoCdW
  have hf := fill_cd u
  simp [Instr.buildSlice, run_underlying Try.underlying35, sizeOf, typeInfo, hi, hz1, zeroValue, hz0, newRow, hf]
theorem events_cd1 (w : World) (u : Value) (es : Array Event) : (Instr.buildSlice 35 1 #[(0, .agg #[u])]).events Try.prog w es = es := by
  obtain ⟨i0, hi, hz0, hz1, hz2⟩ := info_parts infoCdW
  have hf := fill_cd u
  simp [Instr.buildSlice, run_underlying Try.underlying35, sizeOf, typeInfo, hi, hz1, zeroValue, hz0, newRow, hf]
theorem infoCdS : (Try.prog.info? 26).map (·.size) = some 1 := by kernel_rfl
set_option maxHeartbeats 4000000 in
theorem round75 {B0 c : Nat} {O : Nat → Prop} {Fin : Goroutine → World → Prop} (y : List DLink) (w2 w : World) (Got : Nat → Prop) (v : Value) (l : List (List DLink)) (ps : List Nat) (x : Array Value) (hc : c < B0) (hl : l.length ≤ 100000) (hF : S75 B0 c O Got w2 w v l ps) :
    WG Try.prog (sideC Try.prog B0 c (TO O) O PayL zC Fin) 75 X75 [y] Got (fun ex a' w' Got' => ex = .normal ∧ ∃ v' x' ps', a' = { tmps := T75 c v' x', defers := [] } ∧ S75 B0 c O Got' w2 w' v' (l ++ [y]) ps') { tmps := T75 c v x, defers := [] } w := by
  dsimp only [X75, Try.f75, T75]
  refine g_seq (xs := [y]) (xs' := []) sideC_ok ?_
  refine g_region sideC_ok ?_
  simp only [List.size_toArray, List.length_cons, List.length_nil, Nat.reduceAdd, Nat.zero_add, List.range, List.range.loop]
  refine g_recv (x := y) (xs := []) rfl (by rfl) (fun w₁ h₁ d => ⟨?_, ?_⟩) fun wA hA vr rows hp hr => ?_
  · rfl
  · rfl
  replace hF := hF.rely hc hA
  clear hA
  obtain ⟨p, rfl, rfl, hpI⟩ := hp
  obtain ⟨hpB, hpl, _, hpn⟩ := hr p rfl
  have hpps : p ∉ ps := fun h => hpn (hF.ls.at h).2.1
  clear hr hpn hpl
  replace hF : S75 B0 c O (fun b => Got b ∨ b = p) w2 wA v l ps := ⟨hF.old, hF.ls.keep (fun _ _ => rfl) (fun _ _ => rfl) fun b h => .inl h⟩
  obtain ⟨Got2, e2⟩ : ∃ G2 : Nat → Prop, (fun b => Got b ∨ b = p) = G2 := ⟨_, rfl⟩
  have hpG : Got2 p := by rw [← e2]; exact .inr rfl
  rw [e2] at hF
  simp only [e2]
  clear e2
  have hPI : ∀ {wX wY : World}, InC wX p (y.flatMap lkV).toArray 65 → RelyC B0 c (TO O) Got2 wX wY → InC wY p (y.flatMap lkV).toArray 65 := fun h r => (r.2 p (heap_low h) (by omega) (.inr (.inr hpG))).trans h
  walk_nrm
  refine g_cons_k rfl (by rfl) ?_
  intro wO hR K hK
  replace hF := hF.rely hc hR
  replace hpI := hPI hpI hR
  clear hR
  go_simp
  refine hK _ _ ⟨?_, ?_⟩
  · rw [listed_nil (by simp [go_sem])]
    exact (sideC_ok.terms _).idle _
  clear hK K
  try walk_nrm
  refine g_nil sideC_ok ?_
  simp only [ThenS]
  refine g_seq (xs := []) (xs' := []) sideC_ok ?_
  refine g_cond sideC_ok (t := true) (by rfl) ?_
  simp only [if_true]
  refine g_skip sideC_ok ?_
  simp only [ThenS]
  refine g_block sideC_ok ?_
  refine g_seq (xs := []) (xs' := []) sideC_ok ?_
  refine g_region sideC_ok ?_
  simp only [List.size_toArray, List.length_cons, List.length_nil, Nat.reduceAdd, Nat.zero_add, List.range, List.range.loop]
  refine g_cons_k rfl (by rfl) ?_
  intro wO hR K hK
  replace hF := hF.rely hc hR
  replace hpI := hPI hpI hR
  clear hR
  go_simp
  refine hK _ _ ⟨?_, ?_⟩
  · rw [listed_nil (by simp [go_sem])]
    exact (sideC_ok.terms _).idle _
  clear hK K
  try walk_nrm
  -- the box
  refine g_make rfl (by rfl) ?_
  intro wO hR K hK
  replace hF := hF.rely hc hR
  replace hpI := hPI hpI hR
  clear hR
  go_simp
  refine hK _ _ (by simp) fun hO => ⟨?_, ?_⟩
  · rw [listed_nil (by simp [go_sem])]
    exact dc_alloc _ (by simp)
  clear hK K
  try walk_nrm
  have hb : RB B0 O (wO.alloc (.cells #[.slice none 0 0] 26)) wO.heap.size [.slice none 0 0] 26 := RB.new hF.low (by decide) hO
  have hgb : ∀ g, v.ownBlock = some g → g ≠ wO.heap.size := fun g hg => by have := (hF.ls.own_at hg).2.1; omega
  have hpb : p ≠ wO.heap.size := by have := heap_low hpI; omega
  replace hF := hF.alloc (.cells #[.slice none 0 0] 26)
  replace hpI : InC (wO.alloc (.cells #[.slice none 0 0] 26)) p (y.flatMap lkV).toArray 65 := (heap_alloc_old wO _ (heap_low hpI)).trans hpI
  clear hO
  generalize wO.alloc _ = wB at *
  generalize wO.heap.size = b at *
  refine g_cons_k rfl (by rfl) ?_
  intro wO hR K hK
  replace hF := hF.rely hc hR
  replace hpI := hPI hpI hR
  replace hb := hb.rely hc hR
  clear hR
  have hrun := run_storeRow (P := Try.prog) wO b 26 26 #[.slice none 0 0] #[.slice (some ⟨p, 0, none⟩) y.length y.length] hb.blk infoCdS rfl (by intro u hu; simp at hu; subst hu; rfl)
  refine uponK_store 26 (.tmp 4) (.tmp 8) rfl hrun.1 ?_
  have hset := setRow_heap wO b _ #[.slice (some ⟨p, 0, none⟩) y.length y.length] _ _ hb.blk
  refine hK _ _ ⟨?_, ?_⟩
  · refine dc_row hb.blk hb.low hb.cl hb.cl fun e he => ?_
    have hm := mem_listed he
    rw [events_store_op 26 (.tmp 4) (.tmp 8) rfl hrun.1] at hm
    obtain ⟨ad, h1, h2⟩ := hrun.2 e hm
    exact RB.ev (b := b) (cs := [.slice (some ⟨p, 0, none⟩) y.length y.length]) ⟨hset, hb.cl, hb.low⟩ h1 h2
  clear hK K
  replace hF := hF.row hb #[.slice (some ⟨p, 0, none⟩) y.length y.length] hgb
  replace hpI : InC (wO.setRow b #[.slice (some ⟨p, 0, none⟩) y.length y.length]) p (y.flatMap lkV).toArray 65 := (setRow_other wO b p _ hpb).trans hpI
  replace hb : RB B0 O (wO.setRow b #[.slice (some ⟨p, 0, none⟩) y.length y.length]) b [.slice (some ⟨p, 0, none⟩) y.length y.length] 26 := ⟨hset, hb.cl, hb.low⟩
  clear hset hrun
  generalize wO.setRow b _ = wB at *
  try walk_nrm
  refine g_nil sideC_ok ?_
  simp only [ThenS]
  refine g_region sideC_ok ?_
  simp only [List.size_toArray, List.length_cons, List.length_nil, Nat.reduceAdd, Nat.zero_add, List.range, List.range.loop]
  refine g_cons_k rfl (by rfl) ?_
  intro wO hR K hK
  replace hF := hF.rely hc hR
  replace hpI := hPI hpI hR
  replace hb := hb.rely hc hR
  clear hR
  go_simp
  refine hK _ _ ⟨?_, ?_⟩
  · rw [listed_nil (by simp [go_sem])]
    exact (sideC_ok.terms _).idle _
  clear hK K
  try walk_nrm
  refine g_cons_k rfl (by rfl) ?_
  intro wO hR K hK
  replace hF := hF.rely hc hR
  replace hpI := hPI hpI hR
  replace hb := hb.rely hc hR
  clear hR
  have hcl := hb.cell 0 rfl
  go_simp
  refine hK _ _ ⟨?_, ?_⟩
  · refine dc_same ?_
    co_evs (exact hb.ev rfl rfl)
  clear hK K hcl
  try walk_nrm
  -- the row of one
  refine g_make rfl (by rfl) ?_
  intro wO hR K hK
  replace hF := hF.rely hc hR
  replace hpI := hPI hpI hR
  replace hb := hb.rely hc hR
  clear hR hb hgb hpb
  refine uponK_buildSlice 35 1 #[(0, .tmp 10)] rfl (v' := .slice (some ⟨wO.heap.size, 0, none⟩) 1 1) (w' := wO.alloc (.cells #[.slice (some ⟨p, 0, none⟩) y.length y.length] 26)) (by simpa [Act.eval] using run_cd1 wO (.slice (some ⟨p, 0, none⟩) y.length y.length)) ?_
  refine hK _ _ (by simp) fun hO => ⟨?_, ?_⟩
  · refine dc_alloc _ fun e he => ?_
    have hm := mem_listed he
    rw [(events_buildSlice_op (v' := .slice (some ⟨wO.heap.size, 0, none⟩) 1 1) (w' := wO.alloc (.cells #[.slice (some ⟨p, 0, none⟩) y.length y.length] 26)) 35 1 #[(0, .tmp 10)] rfl (by simpa [Act.eval] using run_cd1 wO (.slice (some ⟨p, 0, none⟩) y.length y.length))).trans (by simpa [Act.eval] using events_cd1 wO (.slice (some ⟨p, 0, none⟩) y.length y.length) #[])] at hm
    simp at hm
  clear hK K
  try walk_nrm
  have hb : RB B0 O (wO.alloc (.cells #[.slice (some ⟨p, 0, none⟩) y.length y.length] 26)) wO.heap.size [.slice (some ⟨p, 0, none⟩) y.length y.length] 26 := RB.new hF.low (by decide) hO
  replace hF := hF.alloc (.cells #[.slice (some ⟨p, 0, none⟩) y.length y.length] 26)
  replace hpI : InC (wO.alloc (.cells #[.slice (some ⟨p, 0, none⟩) y.length y.length] 26)) p (y.flatMap lkV).toArray 65 := (heap_alloc_old wO _ (heap_low hpI)).trans hpI
  clear hO
  generalize wO.alloc _ = wB at *
  generalize wO.heap.size = tb at *
  cases hroom : room v with
  | true =>
    refine g_cons_k rfl (by rfl) ?_
    intro wO hR K hK
    replace hF := hF.rely hc hR
    replace hpI := hPI hpI hR
    replace hb := hb.rely hc hR
    clear hR
    obtain ⟨v', w', hrun, hcase⟩ := ls_append (c := c) 35 hF.low hF.ls hb hpB hpG hpI hpps hl
    rcases hcase with ⟨_, hD, hL⟩ | ⟨h0, _⟩
    · refine uponK_append (.tmp 9) (.tmp 11) 35 rfl rfl rfl hrun ?_
      refine hK _ _ ⟨hD _ fun e he => ?_, ?_⟩
      · have hm := mem_listed he
        rwa [events_append_op (.tmp 9) (.tmp 11) 35 rfl rfl rfl] at hm
      have hF2 : S75 B0 c O Got2 w2 w' v' (l ++ [y]) (ps ++ [p]) := ⟨hF.old.dc (hD #[] (by simp)), hL⟩
      clear hK K hrun hD hL hF hpI hb
      try walk_nrm
      refine g_cons_k rfl (by rfl) ?_
      intro wO hR K hK
      replace hF2 := hF2.rely hc hR
      clear hR
      go_simp
      refine hK _ _ ⟨?_, ?_⟩
      · rw [listed_nil (by simp [go_sem])]
        exact (sideC_ok.terms _).idle _
      clear hK K
      try walk_nrm
      exact g_nil sideC_ok ⟨rfl, v', #[.pointer (some ⟨b, 0, none⟩), .tuple #[.agg #[.slice (some ⟨p, 0, none⟩) y.length y.length], .bool true], .bool true, .agg #[.slice (some ⟨p, 0, none⟩) y.length y.length], v, .agg #[.slice (some ⟨p, 0, none⟩) y.length y.length], .slice (some ⟨tb, 0, none⟩) 1 1, v'], ps ++ [p], by simp [T75], hF2⟩
    · rw [hroom] at h0; cases h0
  | false =>
    refine g_make rfl (by rfl) ?_
    intro wO hR K hK
    replace hF := hF.rely hc hR
    replace hpI := hPI hpI hR
    replace hb := hb.rely hc hR
    clear hR
    obtain ⟨v', w', hrun, hcase⟩ := ls_append (c := c) 35 hF.low hF.ls hb hpB hpG hpI hpps hl
    rcases hcase with ⟨h0, _⟩ | ⟨_, hsz, hcase⟩
    · rw [hroom] at h0; cases h0
    · refine uponK_append (.tmp 9) (.tmp 11) 35 rfl rfl rfl hrun ?_
      refine hK _ _ hsz fun hO => ?_
      obtain ⟨hD, hL⟩ := hcase hO
      refine ⟨hD _ fun e he => ?_, ?_⟩
      · have hm := mem_listed he
        rwa [events_append_op (.tmp 9) (.tmp 11) 35 rfl rfl rfl] at hm
      have hF2 : S75 B0 c O Got2 w2 w' v' (l ++ [y]) (ps ++ [p]) := ⟨hF.old.dc (hD #[] (by simp)), hL⟩
      clear hK K hrun hD hL hF hpI hb hcase
      try walk_nrm
      refine g_cons_k rfl (by rfl) ?_
      intro wO hR K hK
      replace hF2 := hF2.rely hc hR
      clear hR
      go_simp
      refine hK _ _ ⟨?_, ?_⟩
      · rw [listed_nil (by simp [go_sem])]
        exact (sideC_ok.terms _).idle _
      clear hK K
      try walk_nrm
      exact g_nil sideC_ok ⟨rfl, v', #[.pointer (some ⟨b, 0, none⟩), .tuple #[.agg #[.slice (some ⟨p, 0, none⟩) y.length y.length], .bool true], .bool true, .agg #[.slice (some ⟨p, 0, none⟩) y.length y.length], v, .agg #[.slice (some ⟨p, 0, none⟩) y.length y.length], .slice (some ⟨tb, 0, none⟩) 1 1, v'], ps ++ [p], by simp [T75], hF2⟩
end Go.Proofs.Ytlkhknoaifbajaa

/- GOROUTINE 0: listOf, Generate, OneEdit. -/
namespace Go.Proofs.Ytlkhknoaifbajaa
open Go.Conc Go.RowKit M
set_option linter.unusedVariables false
set_option linter.unusedSimpArgs false
set_option maxRecDepth 100000

/-- A row of candidates behind old memory, beside leavers. -/
structure BMR (W0 w : World) (v : Value) (L : List (List DLink)) : Prop where
  out : Below W0.heap.size W0 w
  row : RowRd rCandidate true w v (cdL L) (fun a => W0.heap.size ≤ a.block)
theorem BMR.rely {W0 w w' : World} {v : Value} {L : List (List DLink)} (h : BMR W0 w v L) (x : AtRel w w') : BMR W0 w' v L := by
  obtain ⟨d, rfl⟩ := x
  exact ⟨⟨h.out.os, h.out.tape, h.out.output, h.out.size, h.out.block⟩, h.row.frame fun a _ => ⟨rfl, rfl⟩⟩
section
variable {Post : Goroutine → World → Prop} {s : ByteArray}
set_option maxHeartbeats 4000000 in
theorem list_fork {B0 c : Nat} {O : Nat → Prop} (W0 w2 : World) (L : List (List DLink)) (cfr : Frame) (cs : List Frame) (hc : c < B0) (hL : L.length ≤ 100000) (hML : ∀ m ∈ L, m.length ≤ 1000) (hF : OldC B0 c w2 w2)
    (hbel : ∀ w, OldC B0 c w2 w → Below W0.heap.size W0 w) (hW : W0.heap.size ≤ B0)
    (hK : ∀ v w', BMR W0 w' v L → GoG Try.prog (sideM Try.prog Post) [] () (G (cfr.finish v) cs) w') :
    GoG Try.prog (SC B0 c O Post) L (fun _ => False) (G ((base 75).at { tmps := #[.chan (some c), undef, undef, undef, undef, undef, undef, undef, undef, undef, undef, undef, undef, undef], defers := [] } [.code body75]) (cfr :: cs)) w2 := by
  dsimp only [body75, Try.f75, Option.getD_some]
  have hF : OldC B0 c w2 w2 := hF
  refine goG_seq sideC_ok ?_
  refine goG_region sideC_ok ?_
  simp only [List.size_toArray, List.length_cons, List.length_nil, Nat.reduceAdd, Nat.zero_add, List.range, List.range.loop]
  refine goG_op rfl (by rfl) (by simp [base]) ?_
  intro wO hR K hK2
  replace hF := hF.rely hR
  clear hR
  go_simp
  refine hK2 _ _ ⟨?_, ?_⟩
  · rw [listed_nil (by simp [go_sem])]
    exact (sideC_ok.terms _).idle _
  clear hK2 K
  try walk_nrm
  refine goG_nil sideC_ok ?_
  refine goG_seq sideC_ok ?_
  refine goG_region sideC_ok ?_
  simp only [List.size_toArray, List.length_cons, List.length_nil, Nat.reduceAdd, Nat.zero_add, List.range, List.range.loop]
  refine goG_op rfl (by rfl) (by simp [base]) ?_
  intro wO hR K hK2
  replace hF := hF.rely hR
  clear hR
  go_simp
  refine hK2 _ _ ⟨?_, ?_⟩
  · rw [listed_nil (by simp [go_sem])]
    exact (sideC_ok.terms _).idle _
  clear hK2 K
  try walk_nrm
  refine goG_nil sideC_ok ?_
  refine goG_seq sideC_ok ?_
  refine goG_seq sideC_ok ?_
  refine goG_region sideC_ok ?_
  simp only [List.size_toArray, List.length_cons, List.length_nil, Nat.reduceAdd, Nat.zero_add, List.range, List.range.loop]
  refine goG_op rfl (by rfl) (by simp [base]) ?_
  intro wO hR K hK2
  replace hF := hF.rely hR
  clear hR
  go_simp
  refine hK2 _ _ ⟨?_, ?_⟩
  · rw [listed_nil (by simp [go_sem])]
    exact (sideC_ok.terms _).idle _
  clear hK2 K
  try walk_nrm
  refine goG_nil sideC_ok ?_
  refine goG_block sideC_ok ?_
  refine goG_loop sideC_ok L (fun j a w' Got => ∃ v x ps, a = { tmps := T75 c v x, defers := [] } ∧ S75 B0 c O Got w2 w' v (L.take j) ps) (by simp [base]) ?round ?last ?start
  case round =>
    rintro j y a w' Got hy ⟨v, x, ps, rfl, hF'⟩
    have hjl := (List.getElem?_eq_some_iff.1 hy).1
    refine ItG.mono (round75 y w2 w' Got v (L.take j) ps x hc (by rw [List.length_take]; omega) hF') ?_
    rintro e a w γ ⟨rfl, v', x', ps', rfl, h'⟩
    refine ⟨rfl, v', x', ps', rfl, ?_⟩
    have : L.take (j + 1) = L.take j ++ [y] := by rw [List.take_add_one, hy]; rfl
    rw [this]
    exact h'
  case start => exact ⟨.slice none 0 0, #[], [], rfl, ⟨hF, by simpa using LS.nil _⟩⟩
  case last =>
    rintro a w' Got ⟨v, x, ps, rfl, hF'⟩
    rw [List.take_length] at hF'
    dsimp only [T75]
    refine goG_seq sideC_ok ?_
    refine goG_region sideC_ok ?_
    simp only [List.size_toArray, List.length_cons, List.length_nil, Nat.reduceAdd, Nat.zero_add, List.range, List.range.loop]
    refine goG_last rfl (by rfl) (by simp [base]) (fun w₁ h₁ d => ⟨rfl, rfl⟩) fun w3 h3 d => toM_of_goG (ys := []) ?_
    replace hF' := hF'.rely hc h3
    have hB : BMR W0 (w3.at d) v L := BMR.rely ⟨hbel _ hF'.old, (hF'.ls.row hL hML).mono fun a ha => Nat.le_trans hW ha⟩ ⟨d, rfl⟩
    generalize w3.at d = w4 at hB
    clear hF hF' h3
    have hF := hB
    clear hB
    walk_nrm
    refine goG_op rfl (by rfl) (by simp [base]) ?_
    intro wO hR K hK2
    replace hF := hF.rely hR
    clear hR
    go_simp
    refine hK2 _ _ ⟨?_, ?_⟩
    · rw [listed_nil (by simp [go_sem])]
      exact (sideM_ok.terms _).idle _
    clear hK2 K
    try walk_nrm
    refine goG_nil sideM_ok ?_
    refine goG_seq sideM_ok ?_
    refine goG_cond sideM_ok (t := false) (by rfl) ?_
    simp only [Bool.false_eq_true, if_false]
    refine goG_exit sideM_ok (by simp [base]) (by rfl) ?_
    refine goG_seq sideM_ok ?_
    refine goG_region sideM_ok ?_
    simp only [List.size_toArray, List.length_cons, List.length_nil, Nat.reduceAdd, Nat.zero_add, List.range, List.range.loop]
    refine goG_op rfl (by rfl) (by simp [base]) ?_
    intro wO hR K hK2
    replace hF := hF.rely hR
    clear hR
    go_simp
    refine hK2 _ _ ⟨?_, ?_⟩
    · rw [listed_nil (by simp [go_sem])]
      exact (sideM_ok.terms _).idle _
    clear hK2 K
    try walk_nrm
    refine goG_op rfl (by rfl) (by simp [base]) ?_
    intro wO hR K hK2
    replace hF := hF.rely hR
    clear hR
    go_simp
    refine hK2 _ _ ⟨?_, ?_⟩
    · rw [listed_nil (by simp [go_sem])]
      exact (sideM_ok.terms _).idle _
    clear hK2 K
    try walk_nrm
    refine goG_nil sideM_ok ?_
    refine goG_ret sideM_ok (by simp [base]) fun todo => ?_
    refine goG_leave sideM_ok rfl rfl Try.func75 (resultsM_of_C (sideM_ok.terms _).idle (resultsC_tmp (by rfl) _)) ?_
    walk_nrm
    exact hK _ _ hF
set_option maxHeartbeats 4000000 in
theorem list_closed {c : Nat} (W0 w2 : World) (cfr : Frame) (cs : List Frame) (hc : w2.heap[c]? = some (.chan 32 #[] true 0 0 false)) (hF : BM W0 w2)
    (hK : ∀ v w', BMR W0 w' v [] → GoG Try.prog (sideM Try.prog Post) [] () (G (cfr.finish v) cs) w') :
    GoG Try.prog (sideM Try.prog Post) [] () (G ((base 75).at { tmps := #[.chan (some c), undef, undef, undef, undef, undef, undef, undef, undef, undef, undef, undef, undef, undef], defers := [] } [.code body75]) (cfr :: cs)) w2 := by
  dsimp only [body75, Try.f75, Option.getD_some]
  have hcr : ∀ {wX wY : World}, wX.heap[c]? = some (.chan 32 #[] true 0 0 false) → AtRel wX wY → wY.heap[c]? = some (.chan 32 #[] true 0 0 false) := fun h r => by obtain ⟨d, rfl⟩ := r; exact h
  refine goG_seq sideM_ok ?_
  refine goG_region sideM_ok ?_
  simp only [List.size_toArray, List.length_cons, List.length_nil, Nat.reduceAdd, Nat.zero_add, List.range, List.range.loop]
  refine goG_op rfl (by rfl) (by simp [base]) ?_
  intro wO hR K hK2
  replace hc := hcr hc hR
  replace hF := hF.rely hR
  clear hR
  go_simp
  refine hK2 _ _ ⟨?_, ?_⟩
  · rw [listed_nil (by simp [go_sem])]
    exact (sideM_ok.terms _).idle _
  clear hK2 K
  try walk_nrm
  refine goG_nil sideM_ok ?_
  refine goG_seq sideM_ok ?_
  refine goG_region sideM_ok ?_
  simp only [List.size_toArray, List.length_cons, List.length_nil, Nat.reduceAdd, Nat.zero_add, List.range, List.range.loop]
  refine goG_op rfl (by rfl) (by simp [base]) ?_
  intro wO hR K hK2
  replace hc := hcr hc hR
  replace hF := hF.rely hR
  clear hR
  go_simp
  refine hK2 _ _ ⟨?_, ?_⟩
  · rw [listed_nil (by simp [go_sem])]
    exact (sideM_ok.terms _).idle _
  clear hK2 K
  try walk_nrm
  refine goG_nil sideM_ok ?_
  refine goG_seq sideM_ok ?_
  refine goG_seq sideM_ok ?_
  refine goG_region sideM_ok ?_
  simp only [List.size_toArray, List.length_cons, List.length_nil, Nat.reduceAdd, Nat.zero_add, List.range, List.range.loop]
  refine goG_op rfl (by rfl) (by simp [base]) ?_
  intro wO hR K hK2
  replace hc := hcr hc hR
  replace hF := hF.rely hR
  clear hR
  go_simp
  refine hK2 _ _ ⟨?_, ?_⟩
  · rw [listed_nil (by simp [go_sem])]
    exact (sideM_ok.terms _).idle _
  clear hK2 K
  try walk_nrm
  refine goG_nil sideM_ok ?_
  refine goG_block sideM_ok ?_
  refine goG_loop1 sideM_ok ?_
  refine goG_seq sideM_ok ?_
  refine goG_region sideM_ok ?_
  simp only [List.size_toArray, List.length_cons, List.length_nil, Nat.reduceAdd, Nat.zero_add, List.range, List.range.loop]
  refine goG_recv_closed (c := c) (z := zC) rfl (by rfl) (by simp [base]) hc (fun d => ⟨rfl, rfl⟩) ?_
  walk_nrm
  refine goG_op rfl (by rfl) (by simp [base]) ?_
  intro wO hR K hK2
  replace hF := hF.rely hR
  clear hR
  go_simp
  refine hK2 _ _ ⟨?_, ?_⟩
  · rw [listed_nil (by simp [go_sem])]
    exact (sideM_ok.terms _).idle _
  clear hK2 K
  try walk_nrm
  refine goG_nil sideM_ok ?_
  refine goG_seq sideM_ok ?_
  refine goG_cond sideM_ok (t := false) (by rfl) ?_
  simp only [Bool.false_eq_true, if_false]
  refine goG_exit sideM_ok (by simp [base]) (by rfl) ?_
  refine goG_seq sideM_ok ?_
  refine goG_region sideM_ok ?_
  simp only [List.size_toArray, List.length_cons, List.length_nil, Nat.reduceAdd, Nat.zero_add, List.range, List.range.loop]
  refine goG_op rfl (by rfl) (by simp [base]) ?_
  intro wO hR K hK2
  replace hF := hF.rely hR
  clear hR
  go_simp
  refine hK2 _ _ ⟨?_, ?_⟩
  · rw [listed_nil (by simp [go_sem])]
    exact (sideM_ok.terms _).idle _
  clear hK2 K
  try walk_nrm
  refine goG_op rfl (by rfl) (by simp [base]) ?_
  intro wO hR K hK2
  replace hF := hF.rely hR
  clear hR
  go_simp
  refine hK2 _ _ ⟨?_, ?_⟩
  · rw [listed_nil (by simp [go_sem])]
    exact (sideM_ok.terms _).idle _
  clear hK2 K
  try walk_nrm
  refine goG_nil sideM_ok ?_
  refine goG_ret sideM_ok (by simp [base]) fun todo => ?_
  refine goG_leave sideM_ok rfl rfl Try.func75 (resultsM_of_C (sideM_ok.terms _).idle (resultsC_tmp (by rfl) _)) ?_
  walk_nrm
  exact hK _ _ ⟨hF.out, RowRd.nil _ _ _⟩
noncomputable def bodyGen : Code := Try.f26.body.getD .skip
set_option maxHeartbeats 4000000 in
theorem Generate_main (hs : s.size ≤ maxLen) (w0 : World) (cfr : Frame) (cs : List Frame) (hK : ∀ v w', BMR w0 w' v (genS2 s) → GoG Try.prog (sideM Try.prog Post) [] () (G (cfr.finish v) cs) w') :
    GoG Try.prog (sideM Try.prog Post) [] () (G ((base 26).at { tmps := #[.string s, undef, undef, undef, undef, undef], defers := [] } [.code bodyGen]) (cfr :: cs)) w0 := by
  dsimp only [bodyGen, Try.f26, Option.getD_some]
  have hF := HM.of_below (Below.refl w0.heap.size w0)
  refine goG_seq sideM_ok ?_
  refine goG_region sideM_ok ?_
  simp only [List.size_toArray, List.length_cons, List.length_nil, Nat.reduceAdd, Nat.zero_add, List.range, List.range.loop]
  refine goG_op rfl (by rfl) (by simp [base]) ?_
  intro wO hR K hK2
  replace hF := hF.rely hR
  clear hR
  go_simp
  refine hK2 _ _ ⟨?_, ?_⟩
  · rw [listed_nil (by simp [go_sem])]
    exact (sideM_ok.terms _).idle _
  clear hK2 K
  try walk_nrm
  refine goG_nil sideM_ok ?_
  refine goG_seq sideM_ok ?_
  refine goG_region sideM_ok ?_
  simp only [List.size_toArray, List.length_cons, List.length_nil, Nat.reduceAdd, Nat.zero_add, List.range, List.range.loop]
  refine goG_op rfl (by rfl) (by simp [base]) ?_
  intro wO hR K hK2
  replace hF := hF.rely hR
  clear hR
  go_simp
  refine hK2 _ _ ⟨?_, ?_⟩
  · rw [listed_nil (by simp [go_sem])]
    exact (sideM_ok.terms _).idle _
  clear hK2 K
  try walk_nrm
  refine goG_call (x := body76) sideM_ok rfl (by rfl) (by simp [base]) rfl Try.func76 (by rfl) (by rfl) ?_
  walk_nrm
  simp only [Try.ntmps76, List.size_toArray, List.length_cons, List.length_nil, Nat.reduceAdd, Nat.reduceSub, Array.replicate_succ, Array.replicate_zero, List.push_toArray, List.append_toArray, List.nil_append, List.cons_append]
  rw [show (Value.int .i64 2) = Value.int .i64 ((2 : Nat) : Int) from rfl]
  by_cases hv : isFm s = true ∧ s.size ≤ 4
  · have hG : genS2 s = genL 2 s.data.toList := by unfold genS2; rw [if_pos hv]
    have hlen := gen_len 2 (by omega) s.data.toList (by rw [Array.length_toList]; show s.size ≤ 8; omega)
    have hML : ∀ m ∈ genL 2 s.data.toList, m.length ≤ 1000 := by simpa using gen_row (s := s) (fm_nz hv.1) (by omega) 2 0 (by omega)
    have hvi : (s.size : Int) ≤ 4 := by omega
    have h2 := cand_fork (Post := Post) (s := s) (ℓ := 4) hs hv.1 hvi 2 (by omega)
    dsimp only [SC] at h2
    apply h2
    intro O w2 hm
    rw [fin29 _ _ _ _ _ _ _ _ rfl]
    have hO : OldC (wO.heap.size + 4) (wO.heap.size + 2) w2 w2 := OldC.refl (by rw [hm.siz]; exact Nat.le_refl _)
    walk_nrm
    refine goG_call (x := body75) sideC_ok rfl (by rfl) (by simp [base]) rfl Try.func75 (by rfl) (by rfl) ?_
    walk_nrm
    simp only [Try.ntmps75, List.size_toArray, List.length_cons, List.length_nil, Nat.reduceAdd, Nat.reduceSub, Array.replicate_succ, Array.replicate_zero, List.push_toArray, List.append_toArray, List.nil_append, List.cons_append]
    have h3 := list_fork (Post := Post) (O := O) w0 w2 (genL 2 s.data.toList) (c := wO.heap.size + 2) (B0 := wO.heap.size + 4)
    dsimp only [SC] at h3
    have hF0 := hF.out
    apply h3 _ _ (by omega) (by omega) hML hO (fun w h => hF0.trans ((h.below hm).mono hF0.size)) (by have := hF0.size; omega)
    clear hF
    intro v w3 hF
    rw [fin29 _ _ _ _ _ _ _ _ rfl]
    walk_nrm
    refine goG_op rfl (by rfl) (by simp [base]) ?_
    intro wO hR K hK2
    replace hF := hF.rely hR
    clear hR
    go_simp
    refine hK2 _ _ ⟨?_, ?_⟩
    · rw [listed_nil (by simp [go_sem])]
      exact (sideM_ok.terms _).idle _
    clear hK2 K
    try walk_nrm
    refine goG_nil sideM_ok ?_
    refine goG_ret sideM_ok (by simp [base]) fun todo => ?_
    refine goG_leave sideM_ok rfl rfl Try.func26 (resultsM_of_C (sideM_ok.terms _).idle (resultsC_tmp (by rfl) _)) ?_
    walk_nrm
    rw [← hG] at hF
    exact hK _ _ hF
  · have hG : genS2 s = [] := by unfold genS2; rw [if_neg hv]
    have hvi : (isFm s && decide ((s.size : Int) ≤ 4)) = false := by
      cases h : isFm s with
      | false => rfl
      | true =>
        have : ¬ (s.size : Int) ≤ 4 := fun h4 => hv ⟨h, by omega⟩
        simp [this]
    have h2 := cand_closed (Post := Post) (s := s) (ℓ := 4) hs hvi 2
    apply h2
    intro w2 hm
    rw [fin29 _ _ _ _ _ _ _ _ rfl]
    have hc : w2.heap[wO.heap.size + 2]? = some (.chan 32 #[] true 0 0 false) := hm.obj (wO.heap.size + 2, .chan 32 #[] true 0 0 false) (by simp)
    have hB : BM w0 w2 := HM.of_below (hF.out.trans (hm.bel.mono hF.out.size))
    clear hF
    walk_nrm
    refine goG_call (x := body75) sideM_ok rfl (by rfl) (by simp [base]) rfl Try.func75 (by rfl) (by rfl) ?_
    walk_nrm
    simp only [Try.ntmps75, List.size_toArray, List.length_cons, List.length_nil, Nat.reduceAdd, Nat.reduceSub, Array.replicate_succ, Array.replicate_zero, List.push_toArray, List.append_toArray, List.nil_append, List.cons_append]
    apply list_closed (Post := Post) w0 w2 _ _ hc hB
    clear hB
    intro v w3 hF
    rw [fin29 _ _ _ _ _ _ _ _ rfl]
    walk_nrm
    refine goG_op rfl (by rfl) (by simp [base]) ?_
    intro wO hR K hK2
    replace hF := hF.rely hR
    clear hR
    go_simp
    refine hK2 _ _ ⟨?_, ?_⟩
    · rw [listed_nil (by simp [go_sem])]
      exact (sideM_ok.terms _).idle _
    clear hK2 K
    try walk_nrm
    refine goG_nil sideM_ok ?_
    refine goG_ret sideM_ok (by simp [base]) fun todo => ?_
    refine goG_leave sideM_ok rfl rfl Try.func26 (resultsM_of_C (sideM_ok.terms _).idle (resultsC_tmp (by rfl) _)) ?_
    walk_nrm
    rw [← hG] at hF
    exact hK _ _ hF
noncomputable def bodyOne : Code := Try.f46.body.getD .skip
set_option maxHeartbeats 4000000 in
theorem OneEdit_main (hs : s.size ≤ maxLen) (w0 : World) (cfr : Frame) (cs : List Frame) (hK : ∀ v w', BMR w0 w' v (genS1 s) → GoG Try.prog (sideM Try.prog Post) [] () (G (cfr.finish v) cs) w') :
    GoG Try.prog (sideM Try.prog Post) [] () (G ((base 46).at { tmps := #[.string s, undef, undef, undef, undef, undef], defers := [] } [.code bodyOne]) (cfr :: cs)) w0 := by
  dsimp only [bodyOne, Try.f46, Option.getD_some]
  have hF := HM.of_below (Below.refl w0.heap.size w0)
  refine goG_seq sideM_ok ?_
  refine goG_region sideM_ok ?_
  simp only [List.size_toArray, List.length_cons, List.length_nil, Nat.reduceAdd, Nat.zero_add, List.range, List.range.loop]
  refine goG_op rfl (by rfl) (by simp [base]) ?_
  intro wO hR K hK2
  replace hF := hF.rely hR
  clear hR
  go_simp
  refine hK2 _ _ ⟨?_, ?_⟩
  · rw [listed_nil (by simp [go_sem])]
    exact (sideM_ok.terms _).idle _
  clear hK2 K
  try walk_nrm
  refine goG_nil sideM_ok ?_
  refine goG_seq sideM_ok ?_
  refine goG_region sideM_ok ?_
  simp only [List.size_toArray, List.length_cons, List.length_nil, Nat.reduceAdd, Nat.zero_add, List.range, List.range.loop]
  refine goG_op rfl (by rfl) (by simp [base]) ?_
  intro wO hR K hK2
  replace hF := hF.rely hR
  clear hR
  go_simp
  refine hK2 _ _ ⟨?_, ?_⟩
  · rw [listed_nil (by simp [go_sem])]
    exact (sideM_ok.terms _).idle _
  clear hK2 K
  try walk_nrm
  refine goG_call (x := body76) sideM_ok rfl (by rfl) (by simp [base]) rfl Try.func76 (by rfl) (by rfl) ?_
  walk_nrm
  simp only [Try.ntmps76, List.size_toArray, List.length_cons, List.length_nil, Nat.reduceAdd, Nat.reduceSub, Array.replicate_succ, Array.replicate_zero, List.push_toArray, List.append_toArray, List.nil_append, List.cons_append]
  rw [show (Value.int .i64 1) = Value.int .i64 ((1 : Nat) : Int) from rfl]
  by_cases hv : isFm s = true ∧ s.size ≤ 7
  · have hG : genS1 s = genL 1 s.data.toList := by unfold genS1; rw [if_pos hv]
    have hlen := gen_len 1 (by omega) s.data.toList (by rw [Array.length_toList]; show s.size ≤ 8; omega)
    have hML : ∀ m ∈ genL 1 s.data.toList, m.length ≤ 1000 := by simpa using gen_row (s := s) (fm_nz hv.1) (by omega) 1 0 (by omega)
    have hvi : (s.size : Int) ≤ 7 := by omega
    have h2 := cand_fork (Post := Post) (s := s) (ℓ := 7) hs hv.1 hvi 1 (by omega)
    dsimp only [SC] at h2
    apply h2
    intro O w2 hm
    rw [fin29 _ _ _ _ _ _ _ _ rfl]
    have hO : OldC (wO.heap.size + 4) (wO.heap.size + 2) w2 w2 := OldC.refl (by rw [hm.siz]; exact Nat.le_refl _)
    walk_nrm
    refine goG_call (x := body75) sideC_ok rfl (by rfl) (by simp [base]) rfl Try.func75 (by rfl) (by rfl) ?_
    walk_nrm
    simp only [Try.ntmps75, List.size_toArray, List.length_cons, List.length_nil, Nat.reduceAdd, Nat.reduceSub, Array.replicate_succ, Array.replicate_zero, List.push_toArray, List.append_toArray, List.nil_append, List.cons_append]
    have h3 := list_fork (Post := Post) (O := O) w0 w2 (genL 1 s.data.toList) (c := wO.heap.size + 2) (B0 := wO.heap.size + 4)
    dsimp only [SC] at h3
    have hF0 := hF.out
    apply h3 _ _ (by omega) (by omega) hML hO (fun w h => hF0.trans ((h.below hm).mono hF0.size)) (by have := hF0.size; omega)
    clear hF
    intro v w3 hF
    rw [fin29 _ _ _ _ _ _ _ _ rfl]
    walk_nrm
    refine goG_op rfl (by rfl) (by simp [base]) ?_
    intro wO hR K hK2
    replace hF := hF.rely hR
    clear hR
    go_simp
    refine hK2 _ _ ⟨?_, ?_⟩
    · rw [listed_nil (by simp [go_sem])]
      exact (sideM_ok.terms _).idle _
    clear hK2 K
    try walk_nrm
    refine goG_nil sideM_ok ?_
    refine goG_ret sideM_ok (by simp [base]) fun todo => ?_
    refine goG_leave sideM_ok rfl rfl Try.func46 (resultsM_of_C (sideM_ok.terms _).idle (resultsC_tmp (by rfl) _)) ?_
    walk_nrm
    rw [← hG] at hF
    exact hK _ _ hF
  · have hG : genS1 s = [] := by unfold genS1; rw [if_neg hv]
    have hvi : (isFm s && decide ((s.size : Int) ≤ 7)) = false := by
      cases h : isFm s with
      | false => rfl
      | true =>
        have : ¬ (s.size : Int) ≤ 7 := fun h4 => hv ⟨h, by omega⟩
        simp [this]
    have h2 := cand_closed (Post := Post) (s := s) (ℓ := 7) hs hvi 1
    apply h2
    intro w2 hm
    rw [fin29 _ _ _ _ _ _ _ _ rfl]
    have hc : w2.heap[wO.heap.size + 2]? = some (.chan 32 #[] true 0 0 false) := hm.obj (wO.heap.size + 2, .chan 32 #[] true 0 0 false) (by simp)
    have hB : BM w0 w2 := HM.of_below (hF.out.trans (hm.bel.mono hF.out.size))
    clear hF
    walk_nrm
    refine goG_call (x := body75) sideM_ok rfl (by rfl) (by simp [base]) rfl Try.func75 (by rfl) (by rfl) ?_
    walk_nrm
    simp only [Try.ntmps75, List.size_toArray, List.length_cons, List.length_nil, Nat.reduceAdd, Nat.reduceSub, Array.replicate_succ, Array.replicate_zero, List.push_toArray, List.append_toArray, List.nil_append, List.cons_append]
    apply list_closed (Post := Post) w0 w2 _ _ hc hB
    clear hB
    intro v w3 hF
    rw [fin29 _ _ _ _ _ _ _ _ rfl]
    walk_nrm
    refine goG_op rfl (by rfl) (by simp [base]) ?_
    intro wO hR K hK2
    replace hF := hF.rely hR
    clear hR
    go_simp
    refine hK2 _ _ ⟨?_, ?_⟩
    · rw [listed_nil (by simp [go_sem])]
      exact (sideM_ok.terms _).idle _
    clear hK2 K
    try walk_nrm
    refine goG_nil sideM_ok ?_
    refine goG_ret sideM_ok (by simp [base]) fun todo => ?_
    refine goG_leave sideM_ok rfl rfl Try.func46 (resultsM_of_C (sideM_ok.terms _).idle (resultsC_tmp (by rfl) _)) ?_
    walk_nrm
    rw [← hG] at hF
    exact hK _ _ hF
end
end Go.Proofs.Ytlkhknoaifbajaa

/- GOROUTINE 0: a lone call at a frame; what a law over a row of candidates holds. -/
namespace Go.Proofs.Ytlkhknoaifbajaa
open Go.Conc Go.RowKit M
set_option linter.unusedVariables false
set_option linter.unusedSimpArgs false
set_option maxRecDepth 100000

section
variable {P : Program} {Post : Goroutine → World → Prop}
/-- THROUGH A CALL BY ITS CONTRACT OF ONE GOROUTINE ALONE, at a frame. -/
theorem goG_lone {okf : FuncId → Bool} (hp : GoodP okf P) {ys : List Unit} {b : Frame} {k : List Item} {cs : List Frame} {a : Act} {w : World} {ops : Array Oper} {i : Nat} {rest : List Nat} {o : Oper} {f : FuncId} {fn' : Func} {args : Array Operand} {ats : Array TypeId} {t : Tmp} (Rr : Value → World → Prop)
    (hf : okf f = true) (hfn : P.funcs[f]? = some fn') (hname : (fn'.name == "runtime.NumGoroutine") = false) (hbody : fn'.body.isNone = false) (hres : fn'.results = #[.tmp t])
    (ho : ops[i]? = some o) (hw : Region.wanted o (yielded ops a.tmps) = true) (hk : b.kind ≠ .early) (hop : o.op = .call { callee := .value (.func f), args, argTypes := ats })
    (hre : ∀ v W τ d o τ' d' o', Rr v (re W τ d o) → Rr v (re W τ' d' o'))
    (hc : ∀ (τ : Ans) (d : Nat) (o : Array (Nat × ByteArray)), Calls P f (args.map a.eval) (re w τ d o) fun e w' => ∃ v, e = .returned v ∧ Rr v w')
    (hnext : ∀ v w', w'.tape = w.tape → w'.output = w.output → Rr v w' → GoG P (sideM P Post) ys () (G (b.at (a.put o.dst v) (.inRegion ops rest :: k)) cs) w') : GoG P (sideM P Post) ys () (G (b.at a (.inRegion ops (i :: rest) :: k)) cs) w := by
  have hfin : ∀ v, (b.at a (.inRegion ops (i :: rest) :: k)).finish v = b.at (a.put o.dst v) (.inRegion ops rest :: k) := fun v => by rw [Frame.finish_at, ho]; rfl
  refine goG_of_toM fun d => ?_
  refine ToM.step rfl fun d1 => ?_
  refine ⟨_, _, _, stepG_enter ho hw hk (run_call_body hop hfn hname hbody), Nat.le_refl _, ?_, ?_⟩
  · intro e he
    have hl : listed P b.fn a o ((w.at d).at d1) = #[] := by unfold listed; rw [events_call_body hop hfn hname hbody]; exact seen_none P _
    rw [hl] at he
    simp at he
  have hs : Safe P (fun fr W => ∃ v τ d o, fr.fn = f ∧ fr.leaving P (re W τ d o) (.returned v) ∧ Rr v (re W τ d o)) (Frame.enter P f (args.map a.eval) .normal) [] w :=
    safe_of_calls hp hf hc fun fr W τ d o v h1 h2 h3 => ⟨v, τ, d, o, h1, h2, h3⟩
  refine ToM.trans (toM_safe hs (b.at a (.inRegion ops (i :: rest) :: k) :: cs) w.tape d1 w.output) ?_
  rintro a' w' ⟨fr, W, d2, rfl, rfl, hmode, v, τ, d3, o3, hffn, ⟨_, hdf, hkd, fn2, hfn2, hrun⟩, hR⟩
  rw [hffn, hfn] at hfn2
  obtain rfl := Option.some.inj hfn2
  have hv : fr.tmps.getD t undef = v := by
    have := results_tmp hres fr.tmps P (re W τ d3 o3)
    rw [hrun] at this
    exact (Result.ok.inj this).1.symm
  subst hv
  refine ToM.step rfl fun d4 => ?_
  refine ⟨G (b.at (a.put o.dst (fr.tmps.getD t undef)) (.inRegion ops rest :: k)) cs, (re W w.tape d2 w.output).at d4, #[], ?_, Nat.le_refl _, by simp, ?_⟩
  · have hr4 := results_tmp hres fr.tmps P ((re W w.tape d2 w.output).at d4)
    have he4 := events_results_tmp (P := P) (w := (re W w.tape d2 w.output).at d4) hres fr.tmps #[]
    have hfn' : P.funcs[fr.fn]? = some fn' := by rw [hffn]; exact hfn
    simp [G, stepG, unwind, doReturn, hdf, hkd, hmode, hfn', hr4, he4, GStep.after, seen_none, ← hfin]
  · exact toM_of_goG (hnext (fr.tmps.getD t undef) (re W w.tape d4 w.output) rfl rfl (hre _ W τ d3 o3 w.tape d4 w.output hR))
end
/-- What a lone call keeps of memory. -/
structure Hp (B : Nat) (w w' : World) : Prop where
  os : w'.os = w.os
  size : w.heap.size ≤ w'.heap.size
  block : ∀ k, k < B → w'.heap[k]? = w.heap[k]?
theorem Hp.of {B : Nat} {w w' : World} {τ : Ans} {d : Nat} {o : Array (Nat × ByteArray)} (h : Below B (re w τ d o) w') : Hp B w w' := ⟨h.os, h.size, h.block⟩
theorem Hp.re {B : Nat} {w W : World} {τ τ' : Ans} {d d' : Nat} {o o' : Array (Nat × ByteArray)} (h : Hp B w (re W τ d o)) : Hp B w (re W τ' d' o') := ⟨h.os, h.size, h.block⟩
theorem Hp.below {B : Nat} {w w' : World} (h : Hp B w w') (ht : w'.tape = w.tape) (ho : w'.output = w.output) : Below B w w' := ⟨h.os, ht, ho, h.size, h.block⟩
theorem rowRd_re {α : Type} {E : Rep α} {s : Bool} {W : World} {v : Value} {l : List α} {F : Addr → Prop} {τ τ' : Ans} {d d' : Nat} {o o' : Array (Nat × ByteArray)} (h : RowRd E s (re W τ d o) v l F) : RowRd E s (re W τ' d' o') v l F := h.frame fun _ _ => ⟨rfl, rfl⟩
theorem rowRd_to {α : Type} {E : Rep α} {s : Bool} {W : World} {v : Value} {l : List α} {F : Addr → Prop} (τ : Ans) (d : Nat) (o : Array (Nat × ByteArray)) (h : RowRd E s W v l F) : RowRd E s (re W τ d o) v l F := h.frame fun _ _ => ⟨rfl, rfl⟩
/-- The model's row behind old memory, the program's behind it. -/
structure Ls4 (W0 w : World) (B1 : Nat) (u v : Value) (L lv : List DCandidate) : Prop where
  out : Below W0.heap.size W0 w
  lo : W0.heap.size ≤ B1
  hi : B1 ≤ w.heap.size
  ru : RowRd rCandidate true w u L (fun a => a.block < B1)
  rv : RowRd rCandidate true w v lv (fun a => B1 ≤ a.block)
section
variable {W0 w w' : World} {B1 : Nat} {u v : Value} {L lv lv' : List DCandidate}
theorem Ls4.rely (h : Ls4 W0 w B1 u v L lv) (x : AtRel w w') : Ls4 W0 w' B1 u v L lv := by
  obtain ⟨d, rfl⟩ := x
  exact ⟨⟨h.out.os, h.out.tape, h.out.output, h.out.size, h.out.block⟩, h.lo, h.hi, h.ru.frame fun _ _ => ⟨rfl, rfl⟩, h.rv.frame fun _ _ => ⟨rfl, rfl⟩⟩
theorem Ls4.kept (h : Ls4 W0 w B1 u v L lv) (hb : Below w.heap.size w w') : Ls4 W0 w' B1 u v L lv :=
  ⟨h.out.trans (hb.mono h.out.size), h.lo, Nat.le_trans h.hi hb.size, h.ru.kept hb, h.rv.kept hb⟩
theorem Ls4.mark (h : Ls4 W0 w B1 u v L lv) (hb : Below B1 w w') (hv : RowRd rCandidate true w' v lv' (fun a => B1 ≤ a.block)) : Ls4 W0 w' B1 u v L lv' :=
  ⟨h.out.trans (hb.mono h.lo), h.lo, Nat.le_trans h.hi hb.size, h.ru.frame fun a ha => ⟨World.cell?_of_block (hb.block _ ha), World.frozen?_of_block (hb.block _ ha)⟩, hv⟩
theorem Ls4.first {G : List (List DLink)} {w1 : World} (h : BMR W0 w1 u G) (h2 : BMR w1 w v G) : Ls4 W0 w w1.heap.size u v (cdL G) (cdL G) :=
  ⟨h.out.trans (h2.out.mono h.out.size), h.out.size, h2.out.size, (h.row.tight.kept h2.out).mono fun a ha => ha.2, h2.row⟩
theorem Ls4.bm (h : Ls4 W0 w B1 u v L lv) : BM W0 w := HM.of_below h.out
end
theorem cntRow_link (m : List DLink) : cntRow rLink m = 2 * m.length := by
  induction m with
  | nil => rfl
  | cons x l ih => unfold cntRow at *; rw [List.map_cons, List.sum_cons, ih, List.length_cons, show rLink.cnt x = 2 from rfl]; omega
theorem cntRow_cd (G : List (List DLink)) (h : ∀ m ∈ G, m.length ≤ 1000) : cntRow rCandidate (cdL G) ≤ 2000 * G.length := by
  induction G with
  | nil => simp [cntRow, cdL]
  | cons m G ih =>
    have h1 := ih fun x hx => h x (by simp [hx])
    have h2 := h m (by simp)
    unfold cntRow cdL at *
    rw [List.map_cons, List.map_cons, List.sum_cons, List.length_cons, rCandidate_cnt, cntRow_link]
    dsimp only
    omega
theorem genS2_rows (s : ByteArray) : ∀ m ∈ genS2 s, m.length ≤ 1000 := by
  unfold genS2
  split
  · rename_i h
    simpa using gen_row (s := s) (fm_nz h.1) (by omega) 2 0 (by omega)
  · simp
theorem genS1_rows (s : ByteArray) : ∀ m ∈ genS1 s, m.length ≤ 1000 := by
  unfold genS1
  split
  · rename_i h
    simpa using gen_row (s := s) (fm_nz h.1) (by omega) 1 0 (by omega)
  · simp
theorem genS2_len' (s : ByteArray) : (genS2 s).length ≤ 2000 := genS2_len s
theorem genS1_len' (s : ByteArray) : (genS1 s).length ≤ 2000 := by
  unfold genS1
  split
  · rename_i h; exact gen_len 1 (by omega) _ (by simp; omega)
  · simp
theorem okEqCd : okF 49 = true := by rfl
theorem okMarkCd : okF 50 = true := by rfl
theorem okHeldCd : okF 51 = true := by rfl
end Go.Proofs.Ytlkhknoaifbajaa
