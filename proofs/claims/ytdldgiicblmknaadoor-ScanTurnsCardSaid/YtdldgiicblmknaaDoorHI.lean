/-
  What a table is when a chain, its head or its halves are written. Mathematics; no condition.
-/
import Derived.Test.YtdldgiicblmknaaDoorHH
namespace Go.Proofs.YtdldgiicblmknaaDoor
open Go.RowKit

theorem perm_cancel {D N C D2 R : List Nat} (h : (D ++ C).Perm (N ++ D2)) (hc : C.Perm (D2 ++ R)) : N.Perm (D ++ R) := by
  have h1 : (D ++ C).Perm (D2 ++ (D ++ R)) := (List.Perm.append_left D hc).trans (by rw [← List.append_assoc, ← List.append_assoc]; exact List.Perm.append_right R List.perm_append_comm)
  have h2 : (D2 ++ N).Perm (D2 ++ (D ++ R)) := (List.perm_append_comm.trans h.symm).trans h1
  exact (List.perm_append_left_iff D2).1 h2
theorem perm_tail {N N' E R : List Nat} (h : N.Perm (N' ++ R)) : (N ++ E).Perm (N' ++ E ++ R) := by
  refine (h.append_right E).trans ?_
  rw [List.append_assoc, List.append_assoc]
  exact List.Perm.append_left N' List.perm_append_comm
theorem perm_drop_new (T : Nat) (P Q O N N' E R : List Nat) (h : N.Perm (N' ++ R)) : (T :: (P ++ (Q ++ (O ++ (N ++ E))))).Perm ((T :: (P ++ (Q ++ (O ++ (N' ++ E))))) ++ R) := by
  have h1 := List.Perm.cons T (List.Perm.append_left P (List.Perm.append_left Q (List.Perm.append_left O (perm_tail (E := E) h))))
  simpa only [List.cons_append, List.append_assoc] using h1
theorem perm_drop_old (T : Nat) (P Q O O' N E R : List Nat) (h : O.Perm (O' ++ R)) : (T :: (P ++ (Q ++ (O ++ (N ++ E))))).Perm ((T :: (P ++ (Q ++ (O' ++ (N ++ E))))) ++ R) := by
  have h1 := List.Perm.cons T (List.Perm.append_left P (List.Perm.append_left Q (perm_tail (E := N ++ E) h)))
  simpa only [List.cons_append, List.append_assoc] using h1
/-- The first loose entry is put to the places of a table that is not parted, or to its old ones. -/
theorem push_old {X : Tb} {w w' : World} (h : Here X w) {b : Nat} (hp : X.p0 = some b) {e : En} {L : List En} (hx : X.ext = e :: L) {M : Nat} {c : List En} (hc : X.old[M]? = some c)
    (ho : Only [e.1, b] w w') (he : w'.heap[e.1]? = some (entry e (hd c))) (hb : w'.heap[b]? = some (plObj (X.old.set M (e :: c)))) : Here { X with old := X.old.set M (e :: c), ext := L } w' := by
  have hs := h.sep'
  rw [hp, hx] at hs
  have hcm : c ∈ X.old := List.mem_of_getElem? hc
  have hper := flatten_push e X.old M c hc
  refine h.turn ho ?_ ?_ h.p1 ?_
  · have h1 : ((X.old.set M (e :: c)).flatten.map Prod.fst).Perm (e.1 :: X.old.flatten.map Prod.fst) := by simpa using hper.map Prod.fst
    simp only [Tb.blocks, Tb.ents, List.map_append, hp]
    simp only [List.map_cons] at hs
    exact (List.Perm.nodup_iff (perm_old _ _ _ _ _ _ _ _ h1)).2 hs
  · simp only [hp]
    constructor
    · intro h; cases h
    · intro h
      have : (X.old.set M (e :: c)).length = X.old.length := by simp
      rw [h] at this
      have := List.length_eq_zero_iff.1 this.symm
      rw [this] at hc; simp at hc
  · intro q hq
    rw [objs_iff] at hq
    simp only [Option.toList_some, List.map_cons] at hs
    rcases hq with rfl | ⟨b0, hb0, rfl⟩ | ⟨b1, hb1, rfl⟩ | ⟨d, hd0, hq⟩ | ⟨d, hd1, hq⟩ | hq
    · refine Or.inr ⟨(objs_iff X _).2 (Or.inl (by simp [Tb.head])), ?_⟩
      grind
    · simp only at hb0
      rw [hp] at hb0
      cases hb0
      exact Or.inl hb
    · refine Or.inr ⟨(objs_iff X _).2 (Or.inr (Or.inr (Or.inl ⟨b1, hb1, rfl⟩))), ?_⟩
      simp only at hb1
      rw [hb1] at hs
      simp only [Option.toList_some] at hs
      grind
    · rcases List.mem_or_eq_of_mem_set hd0 with h2 | rfl
      · refine Or.inr ⟨(objs_iff X _).2 (Or.inr (Or.inr (Or.inr (Or.inl ⟨d, h2, hq⟩)))), ?_⟩
        have := flat_mem h2 (ch_mem hq)
        grind
      · simp only [chObjs, List.mem_cons] at hq
        rcases hq with rfl | hq
        · exact Or.inl he
        · refine Or.inr ⟨(objs_iff X _).2 (Or.inr (Or.inr (Or.inr (Or.inl ⟨c, hcm, hq⟩)))), ?_⟩
          have := flat_mem hcm (ch_mem hq)
          grind
    · refine Or.inr ⟨(objs_iff X _).2 (Or.inr (Or.inr (Or.inr (Or.inr (Or.inl ⟨d, hd1, hq⟩))))), ?_⟩
      have := flat_mem hd1 (ch_mem hq)
      grind
    · refine Or.inr ⟨(objs_iff X _).2 (Or.inr (Or.inr (Or.inr (Or.inr (Or.inr ?_))))), ?_⟩
      · rw [hx]; exact List.mem_cons_of_mem _ hq
      · have := ch_mem hq
        simp only at this
        grind
/-- A chain of the old places is another one, of some of its blocks. -/
theorem re_old {X : Tb} {w w' : World} {O : List Nat} (h : Here X w) {b : Nat} (hp : X.p0 = some b) {M : Nat} {c d : List En} (hc : X.old[M]? = some c) (ho : Only O w w') (hO : ∀ x ∈ O, x = b ∨ x ∈ c.map Prod.fst)
    (hb : w'.heap[b]? = some (plObj (X.old.set M d))) (hd : ∀ q ∈ chObjs d, w'.heap[q.1]? = some q.2) (r : List Nat) (hr : (c.map Prod.fst).Perm (d.map Prod.fst ++ r)) (hrest : ∀ i c', X.old[i]? = some c' → i ≠ M → ∀ x ∈ c'.map Prod.fst, x ∉ O) : Here { X with old := X.old.set M d } w' := by
  have hs := h.sep'
  rw [hp] at hs
  have hcm : c ∈ X.old := List.mem_of_getElem? hc
  have hM : M < X.old.length := (List.getElem?_eq_some_iff.1 hc).1
  have hfl : ∀ x ∈ c.map Prod.fst, x ∈ X.old.flatten.map Prod.fst := fun x hx => flat_mem hcm hx
  have hper : (X.old.flatten.map Prod.fst).Perm ((X.old.set M d).flatten.map Prod.fst ++ r) := perm_cancel (by simpa using (flatten_set d X.old M c hc).map Prod.fst) hr
  simp only [Option.toList_some] at hs
  refine h.turn ho ?_ ?_ h.p1 ?_
  · simp only [Tb.blocks, Tb.ents, List.map_append, hp, Option.toList_some]
    have h9 := perm_drop_old X.T [b] X.p1.toList _ _ (X.new.flatten.map Prod.fst) (X.ext.map Prod.fst) r hper
    exact (List.nodup_append.1 ((List.Perm.nodup_iff h9).1 hs)).1
  · simp only [hp]
    constructor
    · intro h; cases h
    · intro h
      have : (X.old.set M d).length = X.old.length := by simp
      rw [h] at this
      simp at this; omega
  · intro q hq
    rw [objs_iff] at hq
    rcases hq with rfl | ⟨b0, hb0, rfl⟩ | ⟨b1, hb1, rfl⟩ | ⟨e, hd0, hq⟩ | ⟨e, hd1, hq⟩ | hq
    · refine Or.inr ⟨(objs_iff X _).2 (Or.inl (by simp [Tb.head])), fun hm => ?_⟩
      have := hO _ hm
      grind
    · simp only at hb0
      rw [hp] at hb0
      cases hb0
      exact Or.inl hb
    · refine Or.inr ⟨(objs_iff X _).2 (Or.inr (Or.inr (Or.inl ⟨b1, hb1, rfl⟩))), fun hm => ?_⟩
      simp only at hb1
      rw [hb1] at hs
      simp only [Option.toList_some] at hs
      have := hO _ hm
      grind
    · obtain ⟨i, hi, rfl⟩ := List.getElem_of_mem hd0
      rw [List.getElem_set] at hq
      rw [List.length_set] at hi
      split at hq
      · exact Or.inl (hd q hq)
      · next hne =>
        refine Or.inr ⟨(objs_iff X _).2 (Or.inr (Or.inr (Or.inr (Or.inl ⟨_, List.getElem_mem hi, hq⟩)))), ?_⟩
        exact hrest i _ (List.getElem?_eq_getElem hi) (fun h => hne h.symm) _ (ch_mem hq)
    · refine Or.inr ⟨(objs_iff X _).2 (Or.inr (Or.inr (Or.inr (Or.inr (Or.inl ⟨e, hd1, hq⟩))))), fun hm => ?_⟩
      have := flat_mem hd1 (ch_mem hq)
      have := hO _ hm
      grind
    · refine Or.inr ⟨(objs_iff X _).2 (Or.inr (Or.inr (Or.inr (Or.inr (Or.inr hq))))), fun hm => ?_⟩
      have := ch_mem hq
      simp only at this
      have := hO _ hm
      grind
/-- A chain of the new places is another one, of some of its blocks. -/
theorem re_new {X : Tb} {w w' : World} {O : List Nat} (h : Here X w) {b : Nat} (hp : X.p1 = some b) {M : Nat} {c d : List En} (hc : X.new[M]? = some c) (ho : Only O w w') (hO : ∀ x ∈ O, x = b ∨ x ∈ c.map Prod.fst)
    (hb : w'.heap[b]? = some (plObj (X.new.set M d))) (hd : ∀ q ∈ chObjs d, w'.heap[q.1]? = some q.2) (r : List Nat) (hr : (c.map Prod.fst).Perm (d.map Prod.fst ++ r)) (hrest : ∀ i c', X.new[i]? = some c' → i ≠ M → ∀ x ∈ c'.map Prod.fst, x ∉ O) : Here { X with new := X.new.set M d } w' := by
  have hs := h.sep'
  rw [hp] at hs
  have hcm : c ∈ X.new := List.mem_of_getElem? hc
  have hM : M < X.new.length := (List.getElem?_eq_some_iff.1 hc).1
  have hfl : ∀ x ∈ c.map Prod.fst, x ∈ X.new.flatten.map Prod.fst := fun x hx => flat_mem hcm hx
  have hper : (X.new.flatten.map Prod.fst).Perm ((X.new.set M d).flatten.map Prod.fst ++ r) := perm_cancel (by simpa using (flatten_set d X.new M c hc).map Prod.fst) hr
  simp only [Option.toList_some] at hs
  refine h.turn ho ?_ h.p0 ?_ ?_
  · simp only [Tb.blocks, Tb.ents, List.map_append, hp, Option.toList_some]
    have h9 := perm_drop_new X.T X.p0.toList [b] (X.old.flatten.map Prod.fst) _ _ (X.ext.map Prod.fst) r hper
    exact (List.nodup_append.1 ((List.Perm.nodup_iff h9).1 hs)).1
  · simp only [hp]
    constructor
    · intro h; cases h
    · intro h
      have : (X.new.set M d).length = X.new.length := by simp
      rw [h] at this
      simp at this; omega
  · intro q hq
    rw [objs_iff] at hq
    rcases hq with rfl | ⟨b0, hb0, rfl⟩ | ⟨b1, hb1, rfl⟩ | ⟨e, hd0, hq⟩ | ⟨e, hd1, hq⟩ | hq
    · refine Or.inr ⟨(objs_iff X _).2 (Or.inl (by simp [Tb.head])), fun hm => ?_⟩
      have := hO _ hm
      grind
    · refine Or.inr ⟨(objs_iff X _).2 (Or.inr (Or.inl ⟨b0, hb0, rfl⟩)), fun hm => ?_⟩
      simp only at hb0
      rw [hb0] at hs
      simp only [Option.toList_some] at hs
      have := hO _ hm
      grind
    · simp only at hb1
      rw [hp] at hb1
      cases hb1
      exact Or.inl hb
    · refine Or.inr ⟨(objs_iff X _).2 (Or.inr (Or.inr (Or.inr (Or.inl ⟨e, hd0, hq⟩)))), fun hm => ?_⟩
      have := flat_mem hd0 (ch_mem hq)
      have := hO _ hm
      grind
    · obtain ⟨i, hi, rfl⟩ := List.getElem_of_mem hd1
      rw [List.getElem_set] at hq
      rw [List.length_set] at hi
      split at hq
      · exact Or.inl (hd q hq)
      · next hne =>
        refine Or.inr ⟨(objs_iff X _).2 (Or.inr (Or.inr (Or.inr (Or.inr (Or.inl ⟨_, List.getElem_mem hi, hq⟩))))), ?_⟩
        exact hrest i _ (List.getElem?_eq_getElem hi) (fun h => hne h.symm) _ (ch_mem hq)
    · refine Or.inr ⟨(objs_iff X _).2 (Or.inr (Or.inr (Or.inr (Or.inr (Or.inr hq))))), fun hm => ?_⟩
      have := ch_mem hq
      simp only at this
      have := hO _ hm
      grind

end Go.Proofs.YtdldgiicblmknaaDoor
