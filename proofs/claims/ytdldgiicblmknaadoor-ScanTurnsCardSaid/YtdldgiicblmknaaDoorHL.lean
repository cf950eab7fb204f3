/-
  What holds of every table that the methods make, and that a step keeps it. Mathematics; no condition.
-/
import Derived.Test.YtdldgiicblmknaaDoorHK
namespace Go.Proofs.YtdldgiicblmknaaDoor
open Go.RowKit

def PlOk (seed : Int) (l : List (List En)) : Prop := ∀ i c, l[i]? = some c → ∀ e ∈ c, num seed e.2.1 % l.length = i
theorem plOk_nil (seed : Int) : PlOk seed [] := fun i c h => by simp at h
theorem plOk_nils (seed : Int) (n : Nat) : PlOk seed (List.replicate n []) := fun i c h e he => by
  have hc := nils_mem (List.mem_of_getElem? h)
  rw [hc] at he; cases he
theorem pushL_perm (seed : Int) (l : List (List En)) (e : En) (h : 0 < l.length) : (pushL seed l e).flatten.Perm (e :: l.flatten) := by
  have hM := Nat.mod_lt (num seed e.2.1) h
  exact flatten_push e l _ _ (by simp [hM])
theorem pushL_ok (seed : Int) (l : List (List En)) (e : En) (hp : PlOk seed l) : PlOk seed (pushL seed l e) := by
  intro i c hc x hx
  rw [pushL_len]
  unfold pushL at hc
  by_cases hi : num seed e.2.1 % l.length = i
  · subst hi
    by_cases h : 0 < l.length
    · have hM := Nat.mod_lt (num seed e.2.1) h
      rw [List.getElem?_set_self hM] at hc
      cases hc
      rcases List.mem_cons.1 hx with rfl | hx
      · rfl
      · exact hp _ _ (by simp [hM]) x hx
    · have : l = [] := List.length_eq_zero_iff.1 (by omega)
      subst this
      simp at hc
  · rw [List.getElem?_set_ne hi] at hc
    exact hp i c hc x hx
theorem foldP (seed : Int) : ∀ (L : List En) (N : List (List En)), 0 < N.length → (L.foldl (pushL seed) N).length = N.length ∧ (L.foldl (pushL seed) N).flatten.Perm (L ++ N.flatten) ∧ (PlOk seed N → PlOk seed (L.foldl (pushL seed) N)) := by
  intro L
  induction L with
  | nil => intro N _; exact ⟨rfl, List.Perm.refl _, id⟩
  | cons e L ih =>
    intro N hN
    obtain ⟨h1, h2, h3⟩ := ih (pushL seed N e) (by rw [pushL_len]; exact hN)
    refine ⟨by rw [List.foldl_cons, h1, pushL_len], ?_, fun h => h3 (pushL_ok seed N e h)⟩
    rw [List.foldl_cons]
    refine h2.trans ((List.Perm.append_left L (pushL_perm seed N e hN)).trans ?_)
    exact List.perm_middle

/-- What holds of every table that the methods make. -/
structure Inv (X : Tb) : Prop where
  good : Good X
  emp : X.new ≠ [] → ∀ i, i < X.moved → X.old[i]? = some []
  cnt : X.count = X.ents.length
  nd : (X.ents.map fun e => e.2.1).Nodup
  pl0 : PlOk X.seed X.old
  pl1 : PlOk X.seed X.new
  ext : X.ext = []

theorem flatten_last : ∀ (l : List (List En)) (m : Nat) (c : List En), (∀ i, i < m → l[i]? = some []) → l[m]? = some c → m + 1 = l.length → l.flatten = c := by
  intro l
  induction l with
  | nil => intro m c _ h; simp at h
  | cons a l ih =>
    intro m c h0 h1 h2
    cases m with
    | zero =>
      simp at h1 h2
      subst h1 h2
      simp
    | succ m =>
      have := h0 0 (by omega)
      simp at this
      subst this
      simp only [List.flatten_cons, List.nil_append]
      exact ih m c (fun i hi => by have := h0 (i + 1) (by omega); simpa using this) (by simpa using h1) (by simpa using h2)

theorem stepX_ents {X : Tb} (h : Inv X) (hn : X.new ≠ []) : (stepX X).ents.Perm X.ents := by
  have hmv := h.good.mv hn
  obtain ⟨c, hc⟩ : ∃ c, X.old[X.moved]? = some c := ⟨_, List.getElem?_eq_getElem hmv⟩
  have hg : X.old.getD X.moved [] = c := by simp [hc]
  obtain ⟨_, h2, _⟩ := foldP X.seed c X.new (List.length_pos_iff.2 hn)
  unfold stepX
  rw [hg]
  split
  · next hd =>
    have := flatten_last X.old X.moved c (h.emp hn) hc hd
    unfold Tb.ents
    rw [this, h.ext]
    simpa using h2
  · have h3 := flatten_set [] X.old X.moved c hc
    unfold Tb.ents
    rw [h.ext]
    simp only [List.append_nil] at h3 ⊢
    refine (List.Perm.append_left _ h2).trans ?_
    rw [← List.append_assoc]
    exact h3.append_right _
theorem stepX_T (X : Tb) : (stepX X).T = X.T ∧ (stepX X).seed = X.seed ∧ (stepX X).count = X.count := by unfold stepX; split <;> exact ⟨rfl, rfl, rfl⟩
theorem stepX_blocks {X : Tb} (h : Inv X) (hn : X.new ≠ []) : ∀ b ∈ (stepX X).blocks, b ∈ X.blocks := by
  intro b hb
  have hp := (stepX_ents h hn).map Prod.fst
  unfold Tb.blocks at *
  simp only [List.mem_cons, List.mem_append, Option.mem_toList] at *
  rw [(stepX_T X).1] at hb
  rcases hb with rfl | hb | hb | hb
  · exact Or.inl rfl
  · unfold stepX at hb
    split at hb
    · exact Or.inr (Or.inr (Or.inl hb))
    · exact Or.inr (Or.inl hb)
  · unfold stepX at hb
    split at hb
    · cases hb
    · exact Or.inr (Or.inr (Or.inl hb))
  · exact Or.inr (Or.inr (Or.inr (hp.mem_iff.1 hb)))
theorem stepX_inv {X : Tb} (h : Inv X) (hn : X.new ≠ []) : Inv (stepX X) := by
  have hmv := h.good.mv hn
  have he := stepX_ents h hn
  obtain ⟨c, hc⟩ : ∃ c, X.old[X.moved]? = some c := ⟨_, List.getElem?_eq_getElem hmv⟩
  have hg : X.old.getD X.moved [] = c := by simp [hc]
  obtain ⟨h1, _, h3⟩ := foldP X.seed c X.new (List.length_pos_iff.2 hn)
  obtain ⟨hT, hS, hC⟩ := stepX_T X
  refine ⟨⟨by rw [hS]; exact h.good.seed, ?_, ?_, ?_, fun e hm => h.good.ks e (he.mem_iff.1 hm), by rw [hC]; exact h.good.ct⟩, ?_, ?_, ?_, ?_, ?_, ?_⟩
  · unfold stepX; rw [hg]; split
    · simp only [h1]; exact h.good.s1
    · simp only [List.length_set]; exact h.good.s0
  · unfold stepX; rw [hg]; split
    · exact ⟨2, Or.inl ⟨rfl, rfl⟩⟩
    · simp only [h1]; exact h.good.s1
  · unfold stepX; split
    · intro hh; exact absurd rfl hh
    · next hd => intro _; simp only [List.length_set]; omega
  · unfold stepX; split
    · intro hh; exact absurd rfl hh
    · intro _ i hi
      simp only at hi ⊢
      by_cases hm : X.moved = i
      · subst hm; rw [List.getElem?_set_self hmv]
      · rw [List.getElem?_set_ne hm]; exact h.emp hn i (by omega)
  · rw [hC, h.cnt]; exact he.length_eq.symm
  · exact (List.Perm.nodup_iff (he.map _)).2 h.nd
  · rw [hS]; unfold stepX; rw [hg]; split
    · exact h3 h.pl1
    · intro i d hd e hm
      simp only [List.length_set] at hd ⊢
      by_cases hi : X.moved = i
      · subst hi; rw [List.getElem?_set_self hmv] at hd; cases hd; cases hm
      · rw [List.getElem?_set_ne hi] at hd; exact h.pl0 i d hd e hm
  · rw [hS]; unfold stepX; rw [hg]; split
    · exact plOk_nil _
    · exact h3 h.pl1
  · unfold stepX; split <;> rfl

/-- How many steps are left. -/
def rem (X : Tb) : Nat := if X.new = [] then 0 else X.old.length - X.moved
theorem rem_zero {X : Tb} (h : Inv X) : rem X = 0 ↔ X.new = [] := by
  unfold rem
  split
  · next hn => simp [hn]
  · next hn => have := h.good.mv hn; exact ⟨fun hh => by omega, fun hh => absurd hh hn⟩
theorem rem_step {X : Tb} (h : Inv X) (hn : X.new ≠ []) : rem (stepX X) + 1 = rem X := by
  have hmv := h.good.mv hn
  obtain ⟨h1, _, _⟩ := foldP X.seed (X.old.getD X.moved []) X.new (List.length_pos_iff.2 hn)
  unfold rem stepX
  rw [if_neg hn]
  split
  · simp; omega
  · next hd =>
    have : (List.foldl (pushL X.seed) X.new (X.old.getD X.moved [])) ≠ [] := by
      intro hh; rw [hh] at h1; exact hn (List.length_eq_zero_iff.1 h1.symm)
    simp only [this, if_false, List.length_set]
    omega
def stepN : Nat → Tb → Tb
  | 0, X => X
  | n + 1, X => stepN n (stepX X)

end Go.Proofs.YtdldgiicblmknaaDoor
