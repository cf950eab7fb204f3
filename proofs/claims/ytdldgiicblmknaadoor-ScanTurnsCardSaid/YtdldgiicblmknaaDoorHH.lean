/-
  What a table is when an entry is put, let go, or has another value: its blocks. Mathematics; no condition.
-/
import Derived.Test.YtdldgiicblmknaaDoorHG
namespace Go.Proofs.YtdldgiicblmknaaDoor
open Go.RowKit

theorem perm_new (T : Nat) (P Q O N N' E : List Nat) (x : Nat) (h : N'.Perm (x :: N)) : (T :: (P ++ (Q ++ (O ++ (N' ++ E))))).Perm (T :: (P ++ (Q ++ (O ++ (N ++ x :: E))))) := by
  refine List.Perm.cons _ (List.Perm.append_left _ (List.Perm.append_left _ (List.Perm.append_left _ ?_)))
  exact (h.append_right E).trans List.perm_middle.symm
theorem perm_old (T : Nat) (P Q O O' N E : List Nat) (x : Nat) (h : O'.Perm (x :: O)) : (T :: (P ++ (Q ++ (O' ++ (N ++ E))))).Perm (T :: (P ++ (Q ++ (O ++ (N ++ x :: E))))) := by
  refine List.Perm.cons _ (List.Perm.append_left _ (List.Perm.append_left _ ?_))
  refine (h.append_right (N ++ E)).trans ?_
  rw [List.cons_append]
  refine (List.perm_middle.symm).trans ?_
  exact List.Perm.append_left O List.perm_middle.symm
theorem flatten_push {α : Type} (e : α) : ∀ (l : List (List α)) (M : Nat) (c : List α), l[M]? = some c → (l.set M (e :: c)).flatten.Perm (e :: l.flatten) := by
  intro l
  induction l with
  | nil => intro M c h; simp at h
  | cons a l ih =>
    intro M c h
    cases M with
    | zero => simp at h; subst h; simp
    | succ M =>
      simp at h
      have := ih M c h
      simp only [List.set_cons_succ, List.flatten_cons]
      exact (List.Perm.append_left a this).trans List.perm_middle
theorem flatten_set {α : Type} [DecidableEq α] (d : List α) : ∀ (l : List (List α)) (M : Nat) (c : List α), l[M]? = some c → ((l.set M d).flatten ++ c).Perm (l.flatten ++ d) := by
  intro l
  induction l with
  | nil => intro M c h; simp at h
  | cons a l ih =>
    intro M c h
    cases M with
    | zero =>
      simp at h; subst h
      simp only [List.set_cons_zero, List.flatten_cons]
      grind
    | succ M =>
      simp at h
      have := ih M c h
      simp only [List.set_cons_succ, List.flatten_cons]
      grind
theorem ch_mem {L : List En} {q : Nat × Obj} (h : q ∈ chObjs L) : q.1 ∈ L.map Prod.fst := by
  rw [← chObjs_fst]
  exact List.mem_map_of_mem h
theorem flat_mem {l : List (List En)} {c : List En} (hc : c ∈ l) {x : Nat} (h : x ∈ c.map Prod.fst) : x ∈ l.flatten.map Prod.fst := by
  obtain ⟨e, he, rfl⟩ := List.mem_map.1 h
  exact List.mem_map_of_mem (List.mem_flatten.2 ⟨c, hc, he⟩)
theorem Here.sep' {X : Tb} {w : World} (h : Here X w) : (X.T :: (X.p0.toList ++ (X.p1.toList ++ (X.old.flatten.map Prod.fst ++ (X.new.flatten.map Prod.fst ++ X.ext.map Prod.fst))))).Nodup := by
  have := h.sep
  simpa [Tb.blocks, Tb.ents] using this
/-- A member of a table's objects. -/
theorem objs_iff (X : Tb) (q : Nat × Obj) : q ∈ X.objs ↔ q = (X.T, X.head) ∨ (∃ b, X.p0 = some b ∧ q = (b, plObj X.old)) ∨ (∃ b, X.p1 = some b ∧ q = (b, plObj X.new)) ∨ (∃ c ∈ X.old, q ∈ chObjs c) ∨ (∃ c ∈ X.new, q ∈ chObjs c) ∨ q ∈ chObjs X.ext := by
  unfold Tb.objs
  simp only [List.mem_cons, List.mem_append, List.mem_flatMap, List.mem_map, Option.mem_toList]
  constructor
  · rintro (h | ⟨b, h, rfl⟩ | ⟨b, h, rfl⟩ | h | h | h)
    · exact Or.inl h
    · exact Or.inr (Or.inl ⟨b, h, rfl⟩)
    · exact Or.inr (Or.inr (Or.inl ⟨b, h, rfl⟩))
    · exact Or.inr (Or.inr (Or.inr (Or.inl h)))
    · exact Or.inr (Or.inr (Or.inr (Or.inr (Or.inl h))))
    · exact Or.inr (Or.inr (Or.inr (Or.inr (Or.inr h))))
  · rintro (h | ⟨b, h, rfl⟩ | ⟨b, h, rfl⟩ | h | h | h)
    · exact Or.inl h
    · exact Or.inr (Or.inl ⟨b, h, rfl⟩)
    · exact Or.inr (Or.inr (Or.inl ⟨b, h, rfl⟩))
    · exact Or.inr (Or.inr (Or.inr (Or.inl h)))
    · exact Or.inr (Or.inr (Or.inr (Or.inr (Or.inl h))))
    · exact Or.inr (Or.inr (Or.inr (Or.inr (Or.inr h))))

/-- A number of a key. -/
def num (seed : Int) (k : ByteArray) : Nat := (textI seed k.data.toList).toNat
theorem num_int (seed : Int) (k : ByteArray) : ((num seed k : Nat) : Int) = textI seed k.data.toList ∧ num seed k < 18446744073709551616 := by
  have h : U (textI seed k.data.toList) := u_fold _
  unfold num U at *
  omega
def pushL (seed : Int) (l : List (List En)) (e : En) : List (List En) := l.set (num seed e.2.1 % l.length) (e :: l.getD (num seed e.2.1 % l.length) [])
theorem pushL_len (seed : Int) (l : List (List En)) (e : En) : (pushL seed l e).length = l.length := by simp [pushL]

/-- The first loose entry is put to the new places. -/
theorem push_new {X : Tb} {w w' : World} (h : Here X w) {b : Nat} (hp : X.p1 = some b) {e : En} {L : List En} (hx : X.ext = e :: L) {M : Nat} {c : List En} (hc : X.new[M]? = some c)
    (ho : Only [e.1, b] w w') (he : w'.heap[e.1]? = some (entry e (hd c))) (hb : w'.heap[b]? = some (plObj (X.new.set M (e :: c)))) : Here { X with new := X.new.set M (e :: c), ext := L } w' := by
  have hs := h.sep'
  rw [hp, hx] at hs
  have hcm : c ∈ X.new := List.mem_of_getElem? hc
  have hper := flatten_push e X.new M c hc
  refine h.turn ho ?_ h.p0 ?_ ?_
  · have h1 : ((X.new.set M (e :: c)).flatten.map Prod.fst).Perm (e.1 :: X.new.flatten.map Prod.fst) := by simpa using hper.map Prod.fst
    simp only [Tb.blocks, Tb.ents, List.map_append, hp]
    simp only [List.map_cons] at hs
    exact (List.Perm.nodup_iff (perm_new _ _ _ _ _ _ _ _ h1)).2 hs
  · simp only [hp]
    constructor
    · intro h; cases h
    · intro h
      have : (X.new.set M (e :: c)).length = X.new.length := by simp
      rw [h] at this
      have := List.length_eq_zero_iff.1 this.symm
      rw [this] at hc; simp at hc
  · intro q hq
    rw [objs_iff] at hq
    simp only [Option.toList_some, List.map_cons] at hs
    rcases hq with rfl | ⟨b0, hb0, rfl⟩ | ⟨b1, hb1, rfl⟩ | ⟨d, hd0, hq⟩ | ⟨d, hd1, hq⟩ | hq
    · refine Or.inr ⟨(objs_iff X _).2 (Or.inl (by simp [Tb.head])), ?_⟩
      grind
    · refine Or.inr ⟨(objs_iff X _).2 (Or.inr (Or.inl ⟨b0, hb0, rfl⟩)), ?_⟩
      simp only at hb0
      rw [hb0] at hs
      simp only [Option.toList_some] at hs
      grind
    · simp only at hb1
      rw [hp] at hb1
      cases hb1
      exact Or.inl hb
    · refine Or.inr ⟨(objs_iff X _).2 (Or.inr (Or.inr (Or.inr (Or.inl ⟨d, hd0, hq⟩)))), ?_⟩
      have := flat_mem hd0 (ch_mem hq)
      grind
    · rcases List.mem_or_eq_of_mem_set hd1 with h2 | rfl
      · refine Or.inr ⟨(objs_iff X _).2 (Or.inr (Or.inr (Or.inr (Or.inr (Or.inl ⟨d, h2, hq⟩))))), ?_⟩
        have := flat_mem h2 (ch_mem hq)
        grind
      · simp only [chObjs, List.mem_cons] at hq
        rcases hq with rfl | hq
        · exact Or.inl he
        · refine Or.inr ⟨(objs_iff X _).2 (Or.inr (Or.inr (Or.inr (Or.inr (Or.inl ⟨c, hcm, hq⟩))))), ?_⟩
          have := flat_mem hcm (ch_mem hq)
          grind
    · refine Or.inr ⟨(objs_iff X _).2 (Or.inr (Or.inr (Or.inr (Or.inr (Or.inr ?_))))), ?_⟩
      · rw [hx]; exact List.mem_cons_of_mem _ hq
      · have := ch_mem hq
        simp only at this
        grind

end Go.Proofs.YtdldgiicblmknaaDoor
