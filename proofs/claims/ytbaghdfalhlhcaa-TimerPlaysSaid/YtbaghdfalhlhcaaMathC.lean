/-
  Heaps of keys with times: each is not behind its children; what turns when one is taken up, or down. Mathematics; no program, no condition.
-/
import Derived.Test.YtbaghdfalhlhcaaMath
namespace Go.Proofs.Ytbaghdfalhlhcaa

/-- Not behind. -/
def leS (a b : Sc) : Prop := lessS b a = false
theorem leS_refl (a : Sc) : leS a a := less_irr a
theorem leS_of_less {a b : Sc} (h : lessS a b = true) : leS a b := less_asymm h
theorem leS_total (a b : Sc) : leS a b ∨ lessS b a = true := by
  unfold leS
  cases lessS b a with
  | false => exact Or.inl rfl
  | true => exact Or.inr rfl
theorem leS_trans {a b c : Sc} (h : leS a b) (k : leS b c) : leS a c := by
  unfold leS at *
  cases hq : lessS c a with
  | false => rfl
  | true =>
    rcases less_total b c with e | e | e
    · subst e; rw [hq] at h; cases h
    · have := less_trans e hq
      rw [h] at this; cases this
    · rw [k] at e; cases e
theorem leS_less {a b : Sc} (h : leS a b) (hne : a ≠ b) : lessS a b = true := by
  rcases less_total a b with e | e | e
  · exact absurd e hne
  · exact e
  · unfold leS at h; rw [h] at e; cases e
/-- A heap of n, by places. -/
def Hp (f : Nat → Sc) (n : Nat) : Prop := ∀ j, 0 < j → j < n → leS (f ((j - 1) / 2)) (f j)
theorem Hp.root {f : Nat → Sc} {n : Nat} (h : Hp f n) : ∀ j, j < n → leS (f 0) (f j) := by
  intro j
  induction j using Nat.strongRecOn with
  | ind j ih =>
    intro hj
    rcases Nat.eq_zero_or_pos j with rfl | hp
    · exact leS_refl _
    · exact leS_trans (ih ((j - 1) / 2) (by omega) (by omega)) (h j hp hj)
/-- Two change places. -/
def sw (f : Nat → Sc) (i j : Nat) : Nat → Sc := fun k => if k = i then f j else if k = j then f i else f k
theorem sw_l (f : Nat → Sc) (i j : Nat) : sw f i j i = f j := by unfold sw; rw [if_pos rfl]
theorem sw_r (f : Nat → Sc) (i j : Nat) : sw f i j j = f i := by
  unfold sw
  by_cases h : j = i
  · rw [if_pos h, h]
  · rw [if_neg h, if_pos rfl]
theorem sw_o (f : Nat → Sc) {i j k : Nat} (h1 : k ≠ i) (h2 : k ≠ j) : sw f i j k = f k := by unfold sw; rw [if_neg h1, if_neg h2]
/-- All is right but the place i and what is ahead of it. -/
def Up (f : Nat → Sc) (n i : Nat) : Prop := (∀ j, 0 < j → j < n → j ≠ i → leS (f ((j - 1) / 2)) (f j)) ∧ ∀ j, 0 < i → 0 < j → j < n → (j - 1) / 2 = i → leS (f ((i - 1) / 2)) (f j)
theorem Up.done {f : Nat → Sc} {n i : Nat} (h : Up f n i) (hi : i = 0 ∨ leS (f ((i - 1) / 2)) (f i)) : Hp f n := by
  intro j h0 hj
  by_cases he : j = i
  · subst he
    rcases hi with rfl | hi
    · omega
    · exact hi
  · exact h.1 j h0 hj he
theorem Up.step {f : Nat → Sc} {n i : Nat} (h : Up f n i) (h0 : 0 < i) (hi : i < n) (hl : lessS (f i) (f ((i - 1) / 2)) = true) : Up (sw f i ((i - 1) / 2)) n ((i - 1) / 2) := by
  obtain ⟨p, hp⟩ : ∃ p, p = (i - 1) / 2 := ⟨_, rfl⟩
  rw [← hp] at hl ⊢
  have hpi : p < i := by omega
  refine ⟨fun j j0 jn je => ?_, fun j p0 j0 jn je => ?_⟩
  · by_cases hji : j = i
    · subst hji
      rw [← hp, sw_r, sw_l]
      exact leS_of_less hl
    · by_cases hpj : (j - 1) / 2 = i
      · rw [hpj, sw_l, sw_o f (by omega) (by omega), hp]
        exact h.2 j h0 j0 jn hpj
      · by_cases hpp : (j - 1) / 2 = p
        · rw [hpp, sw_r, sw_o f hji je]
          have := h.1 j j0 jn hji
          rw [hpp] at this
          exact leS_trans (leS_of_less hl) this
        · rw [sw_o f hpj hpp, sw_o f hji je]
          exact h.1 j j0 jn hji
  · have hq : (p - 1) / 2 ≠ i := by omega
    have hq2 : (p - 1) / 2 ≠ p := by omega
    have hpar := h.1 p p0 (by omega) (by omega)
    rw [sw_o f hq hq2]
    by_cases hji : j = i
    · subst hji
      rw [sw_l]
      exact hpar
    · rw [sw_o f hji (by omega)]
      have := h.1 j j0 jn hji
      rw [je] at this
      exact leS_trans hpar this
theorem Up.push {f g : Nat → Sc} {n : Nat} (h : Hp f n) (hg : ∀ k, k < n → g k = f k) : Up g (n + 1) n := by
  refine ⟨fun j j0 jn je => ?_, fun j n0 j0 jn je => by omega⟩
  rw [hg _ (by omega), hg _ (by omega)]
  exact h j j0 (by omega)
/-- All is right but the place i and what is behind it. -/
def Down (f : Nat → Sc) (n i : Nat) : Prop := (∀ j, 0 < j → j < n → (j - 1) / 2 ≠ i → leS (f ((j - 1) / 2)) (f j)) ∧ ∀ j, 0 < i → 0 < j → j < n → (j - 1) / 2 = i → leS (f ((i - 1) / 2)) (f j)
theorem Down.done {f : Nat → Sc} {n i : Nat} (h : Down f n i) (hi : ∀ j, 0 < j → j < n → (j - 1) / 2 = i → leS (f i) (f j)) : Hp f n := by
  intro j h0 hj
  by_cases he : (j - 1) / 2 = i
  · rw [he]
    exact hi j h0 hj he
  · exact h.1 j h0 hj he
theorem Down.step {f : Nat → Sc} {n i c : Nat} (h : Down f n i) (c0 : 0 < c) (cn : c < n) (hc : (c - 1) / 2 = i) (hmin : ∀ d, 0 < d → d < n → (d - 1) / 2 = i → leS (f c) (f d)) (hl : lessS (f c) (f i) = true) : Down (sw f i c) n c := by
  have hic : i < c := by omega
  refine ⟨fun j j0 jn je => ?_, fun j _ j0 jn je => ?_⟩
  · by_cases hji : j = i
    · subst hji
      rw [sw_l, sw_o f (by omega) (by omega)]
      exact h.2 c j0 c0 cn hc
    · by_cases hjc : j = c
      · subst hjc
        rw [hc, sw_l, sw_r]
        exact leS_of_less hl
      · by_cases hpi : (j - 1) / 2 = i
        · rw [hpi, sw_l, sw_o f hji hjc]
          exact hmin j j0 jn hpi
        · rw [sw_o f hpi je, sw_o f hji hjc]
          exact h.1 j j0 jn hpi
  · rw [hc, sw_l, sw_o f (by omega) (by omega)]
    have := h.1 j j0 jn (by omega)
    rw [je] at this
    exact this
/-- One has another thing in its place. -/
def Mid (f : Nat → Sc) (n i : Nat) : Prop := (∀ j, 0 < j → j < n → j ≠ i → (j - 1) / 2 ≠ i → leS (f ((j - 1) / 2)) (f j)) ∧ ∀ j, 0 < i → 0 < j → j < n → (j - 1) / 2 = i → leS (f ((i - 1) / 2)) (f j)
theorem Mid.of {f g : Nat → Sc} {n m i : Nat} (h : Hp f n) (hm : m ≤ n) (hg : ∀ k, k < m → k ≠ i → g k = f k) (_ : i < m) : Mid g m i := by
  refine ⟨fun j j0 jm ji jp => ?_, fun j i0 j0 jm je => ?_⟩
  · rw [hg _ (by omega) jp, hg _ jm ji]
    exact h j j0 (by omega)
  · rw [hg _ (by omega) (by omega), hg _ jm (by omega)]
    have h1 := h i i0 (by omega)
    have h2 := h j j0 (by omega)
    rw [je] at h2
    exact leS_trans h1 h2
theorem Mid.down {f : Nat → Sc} {n i : Nat} (h : Mid f n i) (hi : i = 0 ∨ leS (f ((i - 1) / 2)) (f i)) : Down f n i := by
  refine ⟨fun j j0 jn jp => ?_, h.2⟩
  by_cases hji : j = i
  · subst hji
    rcases hi with rfl | hi
    · omega
    · exact hi
  · exact h.1 j j0 jn hji jp
theorem Mid.up {f : Nat → Sc} {n i : Nat} (h : Mid f n i) (hi : ∀ j, 0 < j → j < n → (j - 1) / 2 = i → leS (f i) (f j)) : Up f n i := by
  refine ⟨fun j j0 jn je => ?_, h.2⟩
  by_cases hp : (j - 1) / 2 = i
  · rw [hp]
    exact hi j j0 jn hp
  · exact h.1 j j0 jn je hp
theorem Mid.up_less {f : Nat → Sc} {n i : Nat} (h : Mid f n i) (i0 : 0 < i) (hl : lessS (f i) (f ((i - 1) / 2)) = true) : Up f n i :=
  h.up fun j j0 jn je => leS_trans (leS_of_less hl) (h.2 j i0 j0 jn je)

/-- A row by its places. -/
def el (L : List Sc) (k : Nat) : Sc := L[k]?.getD (⟨#[]⟩, 0)
theorem el_at {L : List Sc} {k : Nat} {x : Sc} (h : L[k]? = some x) : el L k = x := by unfold el; rw [h]; rfl
theorem el_get {L : List Sc} {k : Nat} (h : k < L.length) : L[k]? = some (el L k) := by unfold el; rw [List.getElem?_eq_getElem h]; rfl
def swL (L : List Sc) (i j : Nat) : List Sc := (L.set i (el L j)).set j (el L i)
theorem swL_len (L : List Sc) (i j : Nat) : (swL L i j).length = L.length := by simp [swL]
theorem swL_get {L : List Sc} {i j : Nat} (hi : i < L.length) (hj : j < L.length) (k : Nat) : (swL L i j)[k]? = if k = j then some (el L i) else if k = i then some (el L j) else L[k]? := by
  unfold swL
  rw [List.getElem?_set, List.getElem?_set]
  by_cases h1 : k = j
  · subst h1
    simp [hj]
  · have h1' : ¬ j = k := fun e => h1 e.symm
    simp only [h1, h1', if_false]
    by_cases h2 : k = i
    · subst h2
      simp [hi]
    · have h2' : ¬ i = k := fun e => h2 e.symm
      simp only [h2, h2', if_false]
theorem el_swL {L : List Sc} {i j : Nat} (hi : i < L.length) (hj : j < L.length) : el (swL L i j) = sw (el L) i j := by
  funext k
  have : el (swL L i j) k = ((swL L i j)[k]?).getD (⟨#[]⟩, 0) := rfl
  rw [this, swL_get hi hj]
  unfold sw
  by_cases h2 : k = j
  · subst h2
    by_cases h1 : k = i
    · subst h1; simp
    · simp [h1]
  · by_cases h1 : k = i
    · subst h1; simp [h2]
    · simp [h1, h2, el]
theorem swL_perm {L : List Sc} {i j : Nat} (hi : i < L.length) (hj : j < L.length) : (swL L i j).Perm L := by
  have h1 : el L i = L[i] := el_at (List.getElem?_eq_getElem hi)
  have h2 : el L j = L[j] := el_at (List.getElem?_eq_getElem hj)
  unfold swL
  rw [h1, h2]
  exact List.set_set_perm hi hj
end Go.Proofs.Ytbaghdfalhlhcaa
