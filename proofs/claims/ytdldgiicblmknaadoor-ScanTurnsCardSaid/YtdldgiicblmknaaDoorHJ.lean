/-
  What a table is when its head is written, or places are made. Mathematics; no condition.
-/
import Derived.Test.YtdldgiicblmknaaDoorHI
namespace Go.Proofs.YtdldgiicblmknaaDoor
open Go.RowKit

theorem re_head {X : Tb} {w w' : World} (h : Here X w) (m n : Nat) (ho : Only [X.T] w w') (ht : w'.heap[X.T]? = some ({ X with moved := m, count := n } : Tb).head) : Here { X with moved := m, count := n } w' := by
  have hs := h.sep'
  refine h.turn ho h.sep h.p0 h.p1 ?_
  intro q hq
  rw [objs_iff] at hq
  rcases hq with rfl | ⟨b0, hb0, rfl⟩ | ⟨b1, hb1, rfl⟩ | ⟨e, hd0, hq⟩ | ⟨e, hd1, hq⟩ | hq
  · exact Or.inl ht
  · refine Or.inr ⟨(objs_iff X _).2 (Or.inr (Or.inl ⟨b0, hb0, rfl⟩)), ?_⟩
    simp only at hb0
    rw [hb0] at hs
    simp only [Option.toList_some] at hs
    grind
  · refine Or.inr ⟨(objs_iff X _).2 (Or.inr (Or.inr (Or.inl ⟨b1, hb1, rfl⟩))), ?_⟩
    simp only at hb1
    rw [hb1] at hs
    simp only [Option.toList_some] at hs
    grind
  · refine Or.inr ⟨(objs_iff X _).2 (Or.inr (Or.inr (Or.inr (Or.inl ⟨e, hd0, hq⟩)))), ?_⟩
    have := flat_mem hd0 (ch_mem hq)
    grind
  · refine Or.inr ⟨(objs_iff X _).2 (Or.inr (Or.inr (Or.inr (Or.inr (Or.inl ⟨e, hd1, hq⟩))))), ?_⟩
    have := flat_mem hd1 (ch_mem hq)
    grind
  · refine Or.inr ⟨(objs_iff X _).2 (Or.inr (Or.inr (Or.inr (Or.inr (Or.inr hq))))), ?_⟩
    have := ch_mem hq
    simp only at this
    grind
theorem flatten_nils (N : Nat) : (List.replicate N ([] : List En)).flatten = [] := by induction N <;> simp_all [List.replicate_succ]
theorem nils_mem {N : Nat} {c : List En} (h : c ∈ List.replicate N ([] : List En)) : c = [] := (List.mem_replicate.1 h).2
theorem re_part {X : Tb} {w w' : World} (h : Here X w) (hp : X.p1 = none) (g N : Nat) (hN : 0 < N) (hg : w.heap.size ≤ g) (ho : Only [X.T] w w') (ht : w'.heap[X.T]? = some ({ X with p1 := some g, new := List.replicate N [], moved := 0 } : Tb).head) (hpl : w'.heap[g]? = some (plObj (List.replicate N []))) :
    Here { X with p1 := some g, new := List.replicate N [], moved := 0 } w' := by
  have hn := h.p1.1 hp
  have hgn : g ∉ X.blocks := fun hm => by have := h.lt hm; omega
  have hs := h.sep'
  rw [hp, hn] at hs
  have hgn' : g ∉ (X.T :: (X.p0.toList ++ (X.old.flatten.map Prod.fst ++ X.ext.map Prod.fst))) := by
    have : X.blocks = X.T :: (X.p0.toList ++ (X.old.flatten.map Prod.fst ++ X.ext.map Prod.fst)) := by simp [Tb.blocks, Tb.ents, hp, hn]
    rwa [this] at hgn
  refine h.turn ho ?_ h.p0 ?_ ?_
  · simp only [Tb.blocks, Tb.ents, flatten_nils, List.map_append, Option.toList_some, List.nil_append]
    simp only [List.flatten_nil, List.map_nil, List.nil_append, Option.toList_none] at hs
    grind
  · constructor
    · intro h; cases h
    · intro h
      have h : List.replicate N ([] : List En) = [] := h
      have : (List.replicate N ([] : List En)).length = N := by simp
      rw [h] at this
      simp at this; omega
  · intro q hq
    rw [objs_iff] at hq
    rcases hq with rfl | ⟨b0, hb0, rfl⟩ | ⟨b1, hb1, rfl⟩ | ⟨e, hd0, hq⟩ | ⟨e, hd1, hq⟩ | hq
    · exact Or.inl ht
    · refine Or.inr ⟨(objs_iff X _).2 (Or.inr (Or.inl ⟨b0, hb0, rfl⟩)), ?_⟩
      simp only at hb0
      rw [hb0] at hs
      simp only [Option.toList_some] at hs
      grind
    · cases hb1
      exact Or.inl hpl
    · refine Or.inr ⟨(objs_iff X _).2 (Or.inr (Or.inr (Or.inr (Or.inl ⟨e, hd0, hq⟩)))), ?_⟩
      have := flat_mem hd0 (ch_mem hq)
      grind
    · rw [nils_mem hd1] at hq
      cases hq
    · refine Or.inr ⟨(objs_iff X _).2 (Or.inr (Or.inr (Or.inr (Or.inr (Or.inr hq))))), ?_⟩
      have := ch_mem hq
      simp only at this
      grind
theorem re_open {X : Tb} {w w' : World} (h : Here X w) (hp : X.p0 = none) (g N : Nat) (hN : 0 < N) (hg : w.heap.size ≤ g) (ho : Only [X.T] w w') (ht : w'.heap[X.T]? = some ({ X with p0 := some g, old := List.replicate N [] } : Tb).head) (hpl : w'.heap[g]? = some (plObj (List.replicate N []))) :
    Here { X with p0 := some g, old := List.replicate N [] } w' := by
  have hn := h.p0.1 hp
  have hgn : g ∉ X.blocks := fun hm => by have := h.lt hm; omega
  have hs := h.sep'
  rw [hp, hn] at hs
  have hgn' : g ∉ (X.T :: (X.p1.toList ++ (X.new.flatten.map Prod.fst ++ X.ext.map Prod.fst))) := by
    have : X.blocks = X.T :: (X.p1.toList ++ (X.new.flatten.map Prod.fst ++ X.ext.map Prod.fst)) := by simp [Tb.blocks, Tb.ents, hp, hn]
    rwa [this] at hgn
  refine h.turn ho ?_ ?_ h.p1 ?_
  · simp only [Tb.blocks, Tb.ents, flatten_nils, List.map_append, Option.toList_some, List.nil_append]
    simp only [List.flatten_nil, List.map_nil, List.nil_append, Option.toList_none] at hs
    grind
  · constructor
    · intro h; cases h
    · intro h
      have h : List.replicate N ([] : List En) = [] := h
      have : (List.replicate N ([] : List En)).length = N := by simp
      rw [h] at this
      simp at this; omega
  · intro q hq
    rw [objs_iff] at hq
    rcases hq with rfl | ⟨b0, hb0, rfl⟩ | ⟨b1, hb1, rfl⟩ | ⟨e, hd0, hq⟩ | ⟨e, hd1, hq⟩ | hq
    · exact Or.inl ht
    · cases hb0
      exact Or.inl hpl
    · refine Or.inr ⟨(objs_iff X _).2 (Or.inr (Or.inr (Or.inl ⟨b1, hb1, rfl⟩))), ?_⟩
      simp only at hb1
      rw [hb1] at hs
      simp only [Option.toList_some] at hs
      grind
    · rw [nils_mem hd0] at hq
      cases hq
    · refine Or.inr ⟨(objs_iff X _).2 (Or.inr (Or.inr (Or.inr (Or.inr (Or.inl ⟨e, hd1, hq⟩))))), ?_⟩
      have := flat_mem hd1 (ch_mem hq)
      grind
    · refine Or.inr ⟨(objs_iff X _).2 (Or.inr (Or.inr (Or.inr (Or.inr (Or.inr hq))))), ?_⟩
      have := ch_mem hq
      simp only at this
      grind
/-- A new entry, loose. -/
theorem re_loose {X : Tb} {w w' : World} (h : Here X w) (hx : X.ext = []) (e : En) (he : w.heap.size ≤ e.1) (ho : Only [] w w') (hw : w'.heap[e.1]? = some (entry e none)) : Here { X with ext := [e] } w' := by
  have hgn : e.1 ∉ X.blocks := fun hm => by have := h.lt hm; omega
  have hs := h.sep'
  rw [hx] at hs
  have hb : X.blocks = X.T :: (X.p0.toList ++ (X.p1.toList ++ (X.old.flatten.map Prod.fst ++ X.new.flatten.map Prod.fst))) := by simp [Tb.blocks, Tb.ents, hx]
  rw [hb] at hgn
  refine h.turn ho ?_ h.p0 h.p1 ?_
  · simp only [Tb.blocks, Tb.ents, List.map_append, List.map_cons, List.map_nil]
    simp only [List.map_nil] at hs
    grind
  · intro q hq
    rw [objs_iff] at hq
    rcases hq with hq | hq | hq | hq | hq | hq
    · exact Or.inr ⟨(objs_iff X _).2 (Or.inl hq), by simp⟩
    · exact Or.inr ⟨(objs_iff X _).2 (Or.inr (Or.inl hq)), by simp⟩
    · exact Or.inr ⟨(objs_iff X _).2 (Or.inr (Or.inr (Or.inl hq))), by simp⟩
    · exact Or.inr ⟨(objs_iff X _).2 (Or.inr (Or.inr (Or.inr (Or.inl hq)))), by simp⟩
    · exact Or.inr ⟨(objs_iff X _).2 (Or.inr (Or.inr (Or.inr (Or.inr (Or.inl hq))))), by simp⟩
    · simp only [chObjs, hd, List.mem_cons, List.not_mem_nil, or_false] at hq
      subst hq
      exact Or.inl hw
/-- A place's chain is let loose. -/
theorem re_nil {X : Tb} {w w' : World} (h : Here X w) (hx : X.ext = []) {b M : Nat} (hp : X.p0 = some b) {c : List En} (hc : X.old[M]? = some c) (ho : Only [b] w w') (hpl : w'.heap[b]? = some (plObj (X.old.set M []))) : Here { X with old := X.old.set M [], ext := c } w' := by
  have hs := h.sep'
  rw [hx, hp] at hs
  have hcm : c ∈ X.old := List.mem_of_getElem? hc
  have hM : M < X.old.length := (List.getElem?_eq_some_iff.1 hc).1
  have hper : ((X.old.set M []).flatten.map Prod.fst ++ c.map Prod.fst).Perm (X.old.flatten.map Prod.fst) := by simpa using (flatten_set [] X.old M c hc).map Prod.fst
  simp only [Option.toList_some, List.map_nil, List.append_nil] at hs
  refine h.turn ho ?_ ?_ h.p1 ?_
  · simp only [Tb.blocks, Tb.ents, List.map_append, hp, Option.toList_some]
    refine (List.Perm.nodup_iff (?_ : List.Perm _ _)).2 hs
    refine List.Perm.cons _ (List.Perm.append_left _ (List.Perm.append_left _ ?_))
    refine List.Perm.trans ?_ (hper.append_right _)
    rw [List.append_assoc]
    exact List.Perm.append_left _ List.perm_append_comm
  · simp only [hp]
    constructor
    · intro h; cases h
    · intro h
      have : (X.old.set M []).length = X.old.length := by simp
      rw [h] at this
      simp at this; omega
  · intro q hq
    rw [objs_iff] at hq
    rcases hq with rfl | ⟨b0, hb0, rfl⟩ | ⟨b1, hb1, rfl⟩ | ⟨e, hd0, hq⟩ | ⟨e, hd1, hq⟩ | hq
    · refine Or.inr ⟨(objs_iff X _).2 (Or.inl (by simp [Tb.head])), ?_⟩
      grind
    · simp only at hb0
      rw [hp] at hb0
      cases hb0
      exact Or.inl hpl
    · refine Or.inr ⟨(objs_iff X _).2 (Or.inr (Or.inr (Or.inl ⟨b1, hb1, rfl⟩))), ?_⟩
      simp only at hb1
      rw [hb1] at hs
      simp only [Option.toList_some] at hs
      grind
    · rcases List.mem_or_eq_of_mem_set hd0 with h2 | rfl
      · refine Or.inr ⟨(objs_iff X _).2 (Or.inr (Or.inr (Or.inr (Or.inl ⟨e, h2, hq⟩)))), ?_⟩
        have := flat_mem h2 (ch_mem hq)
        grind
      · cases hq
    · refine Or.inr ⟨(objs_iff X _).2 (Or.inr (Or.inr (Or.inr (Or.inr (Or.inl ⟨e, hd1, hq⟩))))), ?_⟩
      have := flat_mem hd1 (ch_mem hq)
      grind
    · refine Or.inr ⟨(objs_iff X _).2 (Or.inr (Or.inr (Or.inr (Or.inl ⟨c, hcm, hq⟩)))), ?_⟩
      have := flat_mem hcm (ch_mem hq)
      grind
/-- The new places are the table's. -/
theorem re_done {X : Tb} {w w' : World} (h : Here X w) (m : Nat) (ho : Only [X.T] w w') (ht : w'.heap[X.T]? = some ({ X with p0 := X.p1, p1 := none, old := X.new, new := [], moved := m } : Tb).head) : Here { X with p0 := X.p1, p1 := none, old := X.new, new := [], moved := m } w' := by
  have hs := h.sep'
  refine h.turn ho ?_ h.p1 (by simp) ?_
  · simp only [Tb.blocks, Tb.ents, List.map_append, Option.toList_none, List.nil_append, List.flatten_nil]
    have h1 : (X.T :: (X.p1.toList ++ (X.new.flatten.map Prod.fst ++ X.ext.map Prod.fst))).Sublist (X.T :: (X.p0.toList ++ (X.p1.toList ++ (X.old.flatten.map Prod.fst ++ (X.new.flatten.map Prod.fst ++ X.ext.map Prod.fst))))) :=
      List.Sublist.cons_cons _ ((List.Sublist.append (List.Sublist.refl _) (List.sublist_append_right _ _)).trans (List.sublist_append_right _ _))
    exact hs.sublist h1
  · intro q hq
    rw [objs_iff] at hq
    rcases hq with rfl | ⟨b0, hb0, rfl⟩ | ⟨b1, hb1, rfl⟩ | ⟨e, hd0, hq⟩ | ⟨e, hd1, hq⟩ | hq
    · exact Or.inl ht
    · refine Or.inr ⟨(objs_iff X _).2 (Or.inr (Or.inr (Or.inl ⟨b0, hb0, rfl⟩))), ?_⟩
      simp only at hb0
      rw [hb0] at hs
      simp only [Option.toList_some] at hs
      grind
    · cases hb1
    · refine Or.inr ⟨(objs_iff X _).2 (Or.inr (Or.inr (Or.inr (Or.inr (Or.inl ⟨e, hd0, hq⟩))))), ?_⟩
      have := flat_mem hd0 (ch_mem hq)
      grind
    · cases hd1
    · refine Or.inr ⟨(objs_iff X _).2 (Or.inr (Or.inr (Or.inr (Or.inr (Or.inr hq))))), ?_⟩
      have := ch_mem hq
      simp only at this
      grind

end Go.Proofs.YtdldgiicblmknaaDoor
