/-
  Rings of places: each place has one behind it and one ahead of it; a place leaves, a place enters. Mathematics; no program, no condition.
-/
import Derived.Test.YtpbmgaipeofpaaaKM
namespace Go.Proofs.Ytpbmgaipeofpaaa

/-- A function is turned at one place. -/
def upd (f : Nat → Nat) (a b : Nat) : Nat → Nat := fun x => if x = a then b else f x
theorem upd_at (f : Nat → Nat) (a b : Nat) : upd f a b a = b := by unfold upd; rw [if_pos rfl]
theorem upd_other (f : Nat → Nat) {a x : Nat} (b : Nat) (h : x ≠ a) : upd f a b x = f x := by unfold upd; rw [if_neg h]
/-- From a on, by the places bs, to z: nx is what comes behind, pv what stands ahead. -/
def Lk (nx pv : Nat → Nat) : Nat → List Nat → Nat → Prop
  | a, [], z => nx a = z ∧ pv z = a
  | a, b :: bs, z => nx a = b ∧ pv b = a ∧ Lk nx pv b bs z
theorem Lk.split {nx pv : Nat → Nat} : ∀ {xs : List Nat} {a b z : Nat} {ys : List Nat}, Lk nx pv a (xs ++ b :: ys) z ↔ Lk nx pv a xs b ∧ Lk nx pv b ys z
  | [], a, b, z, ys => by simp [Lk, and_assoc]
  | x :: xs, a, b, z, ys => by simp [Lk, Lk.split (xs := xs), and_assoc]
theorem Lk.congr {nx pv nx' pv' : Nat → Nat} : ∀ {bs : List Nat} {a z : Nat}, Lk nx pv a bs z → (∀ x ∈ a :: bs, nx' x = nx x) → (∀ x ∈ z :: bs, pv' x = pv x) → Lk nx' pv' a bs z
  | [], a, z, h, h1, h2 => ⟨by rw [h1 a (by simp)]; exact h.1, by rw [h2 z (by simp)]; exact h.2⟩
  | b :: bs, a, z, h, h1, h2 => ⟨by rw [h1 a (by simp)]; exact h.1, by rw [h2 b (by simp)]; exact h.2.1, h.2.2.congr (fun x hx => h1 x (List.mem_cons_of_mem _ hx)) (fun x hx => h2 x (by
    rcases List.mem_cons.1 hx with rfl | hx
    · simp
    · simp [hx]))⟩
/-- The one behind: the next of the row, or the end. -/
theorem Lk.nxt {nx pv : Nat → Nat} : ∀ {bs : List Nat} {a z i x : Nat}, Lk nx pv a bs z → (a :: bs)[i]? = some x → (bs ++ [z])[i]? = some (nx x)
  | [], a, z, i, x, h, hi => by
    cases i with
    | zero => simp at hi; subst hi; simp [h.1]
    | succ i => simp at hi
  | b :: bs, a, z, i, x, h, hi => by
    cases i with
    | zero => simp at hi; subst hi; simp [h.1]
    | succ i =>
      rw [List.getElem?_cons_succ] at hi
      have := h.2.2.nxt hi
      rw [List.cons_append, List.getElem?_cons_succ]
      exact this
theorem Lk.head {nx pv : Nat → Nat} {bs : List Nat} {a z : Nat} (h : Lk nx pv a bs z) : (bs ++ [z])[0]? = some (nx a) := h.nxt (i := 0) rfl
theorem Lk.nx_mem {nx pv : Nat → Nat} {bs : List Nat} {a z x : Nat} (h : Lk nx pv a bs z) (hx : x ∈ a :: bs) : nx x = z ∨ nx x ∈ bs := by
  obtain ⟨i, hi⟩ := List.getElem?_of_mem hx
  have := List.mem_of_getElem? (h.nxt hi)
  rw [List.mem_append, List.mem_singleton] at this
  exact this.symm
theorem Lk.pv_mem {nx pv : Nat → Nat} : ∀ {bs : List Nat} {a z x : Nat}, Lk nx pv a bs z → (x = z ∨ x ∈ bs) → pv x = a ∨ pv x ∈ bs
  | [], a, z, x, h, hx => by
    rcases hx with rfl | hx
    · exact Or.inl h.2
    · simp at hx
  | b :: bs, a, z, x, h, hx => by
    by_cases e : x = z ∨ x ∈ bs
    · rcases h.2.2.pv_mem e with e1 | e1
      · exact Or.inr (by rw [e1]; simp)
      · exact Or.inr (List.mem_cons_of_mem _ e1)
    · have hb : x = b := by
        rcases hx with h1 | h1
        · exact absurd (Or.inl h1) e
        · rcases List.mem_cons.1 h1 with h2 | h2
          · exact h2
          · exact absurd (Or.inr h2) e
      subst hb
      exact Or.inl h.2.1
/-- Over a place: from the one ahead of it to the one behind it. -/
theorem Lk.over {nx pv : Nat → Nat} {ys : List Nat} {b c z : Nat} (h : Lk nx pv b ys z) (hc : c ∉ ys) (hz : z ∉ ys) (hy : ys.Nodup) : Lk (upd nx c (nx b)) (upd pv (nx b) c) c ys z := by
  cases ys with
  | nil =>
    obtain ⟨h1, h2⟩ := h
    exact ⟨by rw [upd_at, h1], by rw [h1, upd_at]⟩
  | cons d ys =>
    obtain ⟨h1, h2, h3⟩ := h
    have hn := List.nodup_cons.1 hy
    refine ⟨by rw [upd_at, h1], by rw [h1, upd_at], h3.congr (fun x hx => upd_other _ _ (fun e => hc (e ▸ hx))) (fun x hx => upd_other _ _ (fun e => ?_))⟩
    rw [h1] at e
    rcases List.mem_cons.1 hx with h4 | h4
    · exact hz (by rw [← h4, e]; simp)
    · exact hn.1 (e ▸ h4)
/-- A place leaves a ring. -/
theorem Lk.leave {nx pv : Nat → Nat} {xs ys : List Nat} {g b : Nat} (h : Lk nx pv g (xs ++ b :: ys) g) (hn : (g :: (xs ++ b :: ys)).Nodup) :
    Lk (upd nx (pv b) (nx b)) (upd pv (nx b) (pv b)) g (xs ++ ys) g := by
  obtain ⟨h1, h2⟩ := Lk.split.1 h
  have hg := (List.nodup_cons.1 hn).1
  have hl := (List.nodup_cons.1 hn).2
  rw [List.nodup_append] at hl
  obtain ⟨l1, l2, l3⟩ := hl
  have l4 := (List.nodup_cons.1 l2)
  have hgy : g ∉ ys := fun e => hg (by simp [e])
  rcases List.eq_nil_or_concat xs with rfl | ⟨xs', c, rfl⟩
  · obtain ⟨_, e⟩ := h1
    rw [e]
    exact h2.over hgy hgy l4.2
  · rw [List.concat_eq_append, List.append_assoc, List.singleton_append]
    rw [List.concat_eq_append] at h1 l1 l3 hg
    obtain ⟨k1, k2, k3⟩ := Lk.split.1 h1
    rw [k3]
    have hcy : c ∉ ys := fun e => l3 c (by simp) c (List.mem_cons_of_mem _ e) rfl
    refine Lk.split.2 ⟨k1.congr (fun x hx => upd_other _ _ (fun e => ?_)) (fun x hx => upd_other _ _ (fun e => ?_)), h2.over hcy hgy l4.2⟩
    · rcases List.mem_cons.1 hx with h4 | h4
      · exact hg (by rw [← h4, e]; simp)
      · rw [List.nodup_append] at l1
        exact l1.2.2 x h4 c (by simp) e
    · have hx' : x ∈ xs' ++ [c] := by
        rcases List.mem_cons.1 hx with h4 | h4
        · rw [h4]; simp
        · simp [h4]
      rcases h2.nx_mem (x := b) (by simp) with e1 | e1
      · exact hg (by rw [← e1, ← e]; exact List.mem_append_left _ hx')
      · exact l3 x hx' (nx b) (List.mem_cons_of_mem _ e1) e
/-- A place enters a ring, ahead of its beginning. -/
theorem Lk.enter {nx pv : Nat → Nat} {bs : List Nat} {g b : Nat} (h : Lk nx pv g bs g) (hn : (g :: bs).Nodup) (hb : b ∉ g :: bs) :
    Lk (upd (upd nx b g) (pv g) b) (upd (upd pv b (pv g)) g b) g (bs ++ [b]) g := by
  have hg := (List.nodup_cons.1 hn).1
  have hbg : b ≠ g := fun e => hb (by rw [e]; simp)
  have hbb : b ∉ bs := fun e => hb (List.mem_cons_of_mem _ e)
  have hpb : b ≠ pv g := fun e => by
    rcases h.pv_mem (Or.inl rfl) with e1 | e1
    · exact hbg (e.trans e1)
    · exact hbb (e ▸ e1)
  refine Lk.split.2 ⟨?_, by rw [upd_other _ _ hpb, upd_at], by rw [upd_at]⟩
  rcases List.eq_nil_or_concat bs with rfl | ⟨bs', c, rfl⟩
  · obtain ⟨e1, e2⟩ := h
    rw [e2]
    exact ⟨by rw [upd_at], by rw [upd_other _ _ hbg, upd_at]⟩
  · rw [List.concat_eq_append] at h hg hbb hn ⊢
    obtain ⟨k1, k2, k3⟩ := Lk.split.1 h
    rw [k3]
    have hl := (List.nodup_cons.1 hn).2
    rw [List.nodup_append] at hl
    refine Lk.split.2 ⟨k1.congr (fun x hx => ?_) (fun x hx => ?_), by rw [upd_at], by rw [upd_other _ _ hbg, upd_at]⟩
    · have n1 : x ≠ c := fun e => by
        rcases List.mem_cons.1 hx with h4 | h4
        · exact hg (by rw [← h4, e]; simp)
        · exact hl.2.2 x h4 c (by simp) e
      have n2 : x ≠ b := fun e => by
        rcases List.mem_cons.1 hx with h4 | h4
        · exact hbg (by rw [← e, h4])
        · exact hbb (by rw [← e]; simp [h4])
      rw [upd_other _ _ n1, upd_other _ _ n2]
    · have hx' : x ∈ bs' ++ [c] := by
        rcases List.mem_cons.1 hx with h4 | h4
        · rw [h4]; simp
        · simp [h4]
      have n1 : x ≠ g := fun e => hg (e ▸ hx')
      have n2 : x ≠ b := fun e => hbb (e ▸ hx')
      rw [upd_other _ _ n1, upd_other _ _ n2]
/-- At which place of a row a block stands. -/
def posB (B : List Nat) (b : Nat) : Nat := B.findIdx (fun x => decide (x = b))
theorem posB_at {B : List Nat} (h : B.Nodup) {i b : Nat} (hi : B[i]? = some b) : posB B b = i := by
  obtain ⟨hlt, e⟩ := List.getElem?_eq_some_iff.1 hi
  unfold posB
  rw [List.findIdx_eq hlt]
  refine ⟨by rw [e]; simp, fun j hj => ?_⟩
  have hj' : j < B.length := by omega
  have hne : B[j] ≠ b := fun e2 => (List.pairwise_iff_getElem.1 h) j i hj' hlt hj (by rw [e2, e])
  simp [hne]
end Go.Proofs.Ytpbmgaipeofpaaa
