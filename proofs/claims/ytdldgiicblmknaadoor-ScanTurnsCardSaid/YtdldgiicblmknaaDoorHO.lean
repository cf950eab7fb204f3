/-
  What a table is when an entry's value is set, or an entry is let go. Mathematics; no condition.
-/
import Derived.Test.YtdldgiicblmknaaDoorHN
namespace Go.Proofs.YtdldgiicblmknaaDoor
open Go.RowKit

theorem lk_block2 (x : En) (A : List En) (p : Addr) : (lk p (x :: A)).block ∈ (x :: A).map Prod.fst := by
  rcases lk_block A ⟨x.1, 2, none⟩ with h | h
  · rw [lk, h]; simp
  · rw [lk]; exact List.mem_cons_of_mem _ h
theorem drop_ch {w : World} {e : En} {B : List En} : ∀ (A : List En) (p : Addr), ((A ++ e :: B).map Prod.fst).Nodup → p.block ∉ (A ++ e :: B).map Prod.fst → ChainAt w (A ++ e :: B) → ∀ q ∈ chObjs (A ++ B), (w.setCell (lk p A) (.pointer (hd B))).heap[q.1]? = some q.2 := by
  intro A
  induction A with
  | nil =>
    intro p _ hp hc q hq
    have hm := ch_mem hq
    rw [lk, Below.heap_setCell _ _ _ _ (fun h => hp (by rw [← h]; simp only [List.nil_append, List.map_cons]; exact List.mem_cons_of_mem _ hm))]
    exact hc.tail q hq
  | cons x A ih =>
    intro p hn hp hc q hq
    simp only [List.cons_append, List.map_cons, List.nodup_cons] at hn
    rw [List.cons_append] at hq hc
    simp only [chObjs, List.mem_cons] at hq
    rcases hq with rfl | hq
    · cases A with
      | nil => exact entry_next hc.head (hd B)
      | cons y A =>
        have hb := lk_block2 y A ⟨x.1, 2, none⟩
        rw [lk, Below.heap_setCell _ _ _ _ (fun h => hn.1 (by simp only at h; rw [h, List.map_append]; exact List.mem_append_left _ hb))]
        exact hc.head
    · exact ih ⟨x.1, 2, none⟩ hn.2 hn.1 hc.tail q hq
theorem val_ch {w : World} {e : En} {B : List En} (v : Int) : ∀ (A : List En), ((A ++ e :: B).map Prod.fst).Nodup → ChainAt w (A ++ e :: B) → ∀ q ∈ chObjs (A ++ (e.1, e.2.1, v) :: B), (w.setCell ⟨e.1, 1, none⟩ (.int .i64 v)).heap[q.1]? = some q.2 := by
  intro A
  induction A with
  | nil =>
    intro hn hc q hq
    simp only [List.nil_append, List.map_cons, List.nodup_cons] at hn
    simp only [List.nil_append, chObjs, List.mem_cons] at hq
    rcases hq with rfl | hq
    · exact entry_value hc.head v
    · rw [Below.heap_setCell _ _ _ _ (fun h => hn.1 (by simp only at h; rw [← h]; exact ch_mem hq))]
      exact hc.tail q hq
  | cons x A ih =>
    intro hn hc q hq
    simp only [List.cons_append, List.map_cons, List.nodup_cons] at hn
    rw [List.cons_append] at hq hc
    simp only [chObjs, List.mem_cons] at hq
    rcases hq with rfl | hq
    · have hx : x.1 ≠ e.1 := fun h => hn.1 (by rw [h]; simp)
      rw [Below.heap_setCell _ _ _ _ hx]
      have := hc.head
      have hh : hd (A ++ (e.1, e.2.1, v) :: B) = hd (A ++ e :: B) := by cases A <;> rfl
      rw [hh]
      exact this
    · exact ih hn.2 hc.tail q hq
theorem plObj_same {l : List (List En)} {M : Nat} {c d : List En} (h : l[M]? = some c) (hh : hd d = hd c) : plObj (l.set M d) = plObj l := by
  unfold plObj
  rw [List.map_set, hh]
  have hM := (List.getElem?_eq_some_iff.1 h)
  obtain ⟨hM, hc⟩ := hM
  congr 2
  apply List.ext_getElem
  · simp
  · intro i h1 h2
    rw [List.getElem_set]
    split
    · next hi => subst hi; simp [hc]
    · rfl
theorem flat_disj {l : List (List En)} (hn : (l.flatten.map Prod.fst).Nodup) {i M : Nat} {c c' : List En} (hc : l[M]? = some c) (hc' : l[i]? = some c') (hne : i ≠ M) {x : Nat} (hx : x ∈ c.map Prod.fst) (hx' : x ∈ c'.map Prod.fst) : False := by
  rw [List.map_flatten] at hn
  have h2 := (List.pairwise_flatten.1 hn).2
  have hg : ∀ (a b : Nat) (u v : List En), l[a]? = some u → l[b]? = some v → a < b → ∀ y ∈ u.map Prod.fst, y ∈ v.map Prod.fst → False := by
    intro a b u v ha hb hab y hy hy'
    obtain ⟨la, ea⟩ := List.getElem?_eq_some_iff.1 ha
    obtain ⟨lb, eb⟩ := List.getElem?_eq_some_iff.1 hb
    have h3 := List.pairwise_iff_getElem.1 h2 a b (by simpa using la) (by simpa using lb) hab
    simp only [List.getElem_map, ea, eb] at h3
    exact h3 y hy y hy' rfl
  rcases Nat.lt_or_gt_of_ne hne with h | h
  · exact hg i M c' c hc' hc h x hx' hx
  · exact hg M i c c' hc hc' h x hx hx'
theorem chain_nodup {l : List (List En)} (hn : (l.flatten.map Prod.fst).Nodup) {M : Nat} {c : List En} (hc : l[M]? = some c) : (c.map Prod.fst).Nodup := by
  rw [List.map_flatten] at hn
  exact (List.pairwise_flatten.1 hn).1 _ (List.mem_map_of_mem (List.mem_of_getElem? hc))
theorem sep_old {X : Tb} {w : World} (h : Here X w) : (X.old.flatten.map Prod.fst).Nodup ∧ ∀ b, X.p0 = some b → b ∉ X.old.flatten.map Prod.fst := by
  have hs := h.sep'
  refine ⟨?_, fun b hb => ?_⟩
  · grind
  · rw [hb] at hs
    simp only [Option.toList_some] at hs
    grind
theorem val_old {X : Tb} {w : World} (h : Here X w) {key : ByteArray} {a : Addr} {b M : Nat} {A : List En} {e : En} {B : List En} (hl : Loc X.p0 X.old key a b M A e B) (v : Int) :
    Here { X with old := X.old.set M (A ++ (e.1, e.2.1, v) :: B) } (w.setCell ⟨e.1, 1, none⟩ (.int .i64 v)) ∧ Only X.blocks w (w.setCell ⟨e.1, 1, none⟩ (.int .i64 v)) := by
  obtain ⟨hnd, hpb⟩ := sep_old h
  have hem : e.1 ∈ (A ++ e :: B).map Prod.fst := by simp
  have hef := flat_mem (List.mem_of_getElem? hl.at_) hem
  have hbne : b ≠ e.1 := fun hh => hpb b hl.p (by rw [hh]; exact hef)
  have hch : ChainAt w (A ++ e :: B) := fun q hq => h.at_ q (mem_old (List.mem_of_getElem? hl.at_) hq)
  have hcn := chain_nodup hnd hl.at_
  have ho : Only [e.1] w (w.setCell ⟨e.1, 1, none⟩ (.int .i64 v)) := (Only.refl [e.1] w).set (Or.inl (by simp)) _
  have heb : e.1 ∈ X.blocks := by
    unfold Tb.blocks Tb.ents
    simp only [List.map_append, List.mem_cons, List.mem_append]
    exact Or.inr (Or.inr (Or.inr (Or.inl hef)))
  refine ⟨re_old h hl.p hl.at_ ho (fun x hx => ?_) ?_ (val_ch v A hcn hch) [] (by simp) (fun i c' hi hne x hx hm => ?_), ho.mono (fun x hx => by simp at hx; rw [hx]; exact heb)⟩
  · simp at hx
    rw [hx]; exact Or.inr hem
  · rw [Below.heap_setCell _ _ _ _ hbne, plObj_same hl.at_ (by cases A <;> rfl)]
    exact h.at_ _ (mem_p0 hl.p)
  · simp at hm
    rw [hm] at hx
    exact flat_disj hnd hl.at_ hi hne hem hx
theorem drop_old {X : Tb} {w : World} (h : Here X w) {key : ByteArray} {a : Addr} {b M : Nat} {A : List En} {e : En} {B : List En} (hl : Loc X.p0 X.old key a b M A e B) :
    Here { X with old := X.old.set M (A ++ B) } (w.setCell a (.pointer (hd B))) ∧ Only X.blocks w (w.setCell a (.pointer (hd B))) := by
  obtain ⟨hnd, hpb⟩ := sep_old h
  have hcn := chain_nodup hnd hl.at_
  have hcf : ∀ x ∈ (A ++ e :: B).map Prod.fst, x ∈ X.old.flatten.map Prod.fst := fun x hx => flat_mem (List.mem_of_getElem? hl.at_) hx
  have hbn : b ∉ (A ++ e :: B).map Prod.fst := fun hh => hpb b hl.p (hcf b hh)
  have hch : ChainAt w (A ++ e :: B) := fun q hq => h.at_ q (mem_old (List.mem_of_getElem? hl.at_) hq)
  have hab : a.block = b ∨ a.block ∈ (A ++ e :: B).map Prod.fst := by
    rw [hl.a]
    rcases lk_block A ⟨b, M, none⟩ with h1 | h1
    · exact Or.inl h1
    · exact Or.inr (by rw [List.map_append]; exact List.mem_append_left _ h1)
  have ho : Only [a.block] w (w.setCell a (.pointer (hd B))) := (Only.refl [a.block] w).set (Or.inl (by simp)) _
  have hblk : a.block ∈ X.blocks := by
    unfold Tb.blocks Tb.ents
    simp only [List.map_append, List.mem_cons, List.mem_append, Option.mem_toList]
    rcases hab with h1 | h1
    · rw [h1]; exact Or.inr (Or.inl hl.p)
    · exact Or.inr (Or.inr (Or.inr (Or.inl (hcf _ h1))))
  have hpl := h.at_ _ (mem_p0 hl.p)
  refine ⟨re_old h hl.p hl.at_ ho (fun x hx => ?_) ?_ (by rw [hl.a]; exact drop_ch A ⟨b, M, none⟩ hcn hbn hch) [e.1] (by simp only [List.map_append, List.map_cons, List.append_assoc]; exact List.Perm.append_left _ (List.perm_append_singleton e.1 _).symm) (fun i c' hi hne x hx hm => ?_), ho.mono (fun x hx => by simp at hx; rw [hx]; exact hblk)⟩
  · simp at hx
    rw [hx]; exact hab
  · rw [hl.a]
    cases A with
    | nil => exact pl_set (c := B) hpl M
    | cons y A =>
      have hb := lk_block2 y A ⟨b, M, none⟩
      rw [Below.heap_setCell _ _ _ _ (fun hh => hbn (by rw [hh, List.map_append]; exact List.mem_append_left _ hb)), plObj_same (d := y :: A ++ B) hl.at_ rfl]
      exact hpl
  · simp at hm
    rcases hab with h1 | h1
    · exact hpb b hl.p (by rw [← h1, ← hm]; exact flat_mem (List.mem_of_getElem? hi) hx)
    · exact flat_disj hnd hl.at_ hi hne h1 (by rw [← hm]; exact hx)
theorem sep_new {X : Tb} {w : World} (h : Here X w) : (X.new.flatten.map Prod.fst).Nodup ∧ ∀ b, X.p1 = some b → b ∉ X.new.flatten.map Prod.fst := by
  have hs := h.sep'
  refine ⟨?_, fun b hb => ?_⟩
  · grind
  · rw [hb] at hs
    simp only [Option.toList_some] at hs
    grind
theorem val_new {X : Tb} {w : World} (h : Here X w) {key : ByteArray} {a : Addr} {b M : Nat} {A : List En} {e : En} {B : List En} (hl : Loc X.p1 X.new key a b M A e B) (v : Int) :
    Here { X with new := X.new.set M (A ++ (e.1, e.2.1, v) :: B) } (w.setCell ⟨e.1, 1, none⟩ (.int .i64 v)) ∧ Only X.blocks w (w.setCell ⟨e.1, 1, none⟩ (.int .i64 v)) := by
  obtain ⟨hnd, hpb⟩ := sep_new h
  have hem : e.1 ∈ (A ++ e :: B).map Prod.fst := by simp
  have hef := flat_mem (List.mem_of_getElem? hl.at_) hem
  have hbne : b ≠ e.1 := fun hh => hpb b hl.p (by rw [hh]; exact hef)
  have hch : ChainAt w (A ++ e :: B) := fun q hq => h.at_ q (mem_new (List.mem_of_getElem? hl.at_) hq)
  have hcn := chain_nodup hnd hl.at_
  have ho : Only [e.1] w (w.setCell ⟨e.1, 1, none⟩ (.int .i64 v)) := (Only.refl [e.1] w).set (Or.inl (by simp)) _
  have heb : e.1 ∈ X.blocks := by
    unfold Tb.blocks Tb.ents
    simp only [List.map_append, List.mem_cons, List.mem_append]
    exact Or.inr (Or.inr (Or.inr (Or.inr (Or.inl hef))))
  refine ⟨re_new h hl.p hl.at_ ho (fun x hx => ?_) ?_ (val_ch v A hcn hch) [] (by simp) (fun i c' hi hne x hx hm => ?_), ho.mono (fun x hx => by simp at hx; rw [hx]; exact heb)⟩
  · simp at hx
    rw [hx]; exact Or.inr hem
  · rw [Below.heap_setCell _ _ _ _ hbne, plObj_same hl.at_ (by cases A <;> rfl)]
    exact h.at_ _ (mem_p1 hl.p)
  · simp at hm
    rw [hm] at hx
    exact flat_disj hnd hl.at_ hi hne hem hx
theorem drop_new {X : Tb} {w : World} (h : Here X w) {key : ByteArray} {a : Addr} {b M : Nat} {A : List En} {e : En} {B : List En} (hl : Loc X.p1 X.new key a b M A e B) :
    Here { X with new := X.new.set M (A ++ B) } (w.setCell a (.pointer (hd B))) ∧ Only X.blocks w (w.setCell a (.pointer (hd B))) := by
  obtain ⟨hnd, hpb⟩ := sep_new h
  have hcn := chain_nodup hnd hl.at_
  have hcf : ∀ x ∈ (A ++ e :: B).map Prod.fst, x ∈ X.new.flatten.map Prod.fst := fun x hx => flat_mem (List.mem_of_getElem? hl.at_) hx
  have hbn : b ∉ (A ++ e :: B).map Prod.fst := fun hh => hpb b hl.p (hcf b hh)
  have hch : ChainAt w (A ++ e :: B) := fun q hq => h.at_ q (mem_new (List.mem_of_getElem? hl.at_) hq)
  have hab : a.block = b ∨ a.block ∈ (A ++ e :: B).map Prod.fst := by
    rw [hl.a]
    rcases lk_block A ⟨b, M, none⟩ with h1 | h1
    · exact Or.inl h1
    · exact Or.inr (by rw [List.map_append]; exact List.mem_append_left _ h1)
  have ho : Only [a.block] w (w.setCell a (.pointer (hd B))) := (Only.refl [a.block] w).set (Or.inl (by simp)) _
  have hblk : a.block ∈ X.blocks := by
    unfold Tb.blocks Tb.ents
    simp only [List.map_append, List.mem_cons, List.mem_append, Option.mem_toList]
    rcases hab with h1 | h1
    · rw [h1]; exact Or.inr (Or.inr (Or.inl hl.p))
    · exact Or.inr (Or.inr (Or.inr (Or.inr (Or.inl (hcf _ h1)))))
  have hpl := h.at_ _ (mem_p1 hl.p)
  refine ⟨re_new h hl.p hl.at_ ho (fun x hx => ?_) ?_ (by rw [hl.a]; exact drop_ch A ⟨b, M, none⟩ hcn hbn hch) [e.1] (by simp only [List.map_append, List.map_cons, List.append_assoc]; exact List.Perm.append_left _ (List.perm_append_singleton e.1 _).symm) (fun i c' hi hne x hx hm => ?_), ho.mono (fun x hx => by simp at hx; rw [hx]; exact hblk)⟩
  · simp at hx
    rw [hx]; exact hab
  · rw [hl.a]
    cases A with
    | nil => exact pl_set (c := B) hpl M
    | cons y A =>
      have hb := lk_block2 y A ⟨b, M, none⟩
      rw [Below.heap_setCell _ _ _ _ (fun hh => hbn (by rw [hh, List.map_append]; exact List.mem_append_left _ hb)), plObj_same (d := y :: A ++ B) hl.at_ rfl]
      exact hpl
  · simp at hm
    rcases hab with h1 | h1
    · exact hpb b hl.p (by rw [← h1, ← hm]; exact flat_mem (List.mem_of_getElem? hi) hx)
    · exact flat_disj hnd hl.at_ hi hne h1 (by rw [← hm]; exact hx)

end Go.Proofs.YtdldgiicblmknaaDoor
