/-
  A whole walk of a table that does not change: each key once; the walk of the law's alive. The table of factors holds what the program's text lays.
-/
import Derived.Test.YtdldgiicblmknaaDoorSI
namespace Go.Proofs.YtdldgiicblmknaaDoor
open Go.RowKit

/-- The turns of a whole walk are all keys. -/
theorem whole_perm {X : Tb} (hI : Inv X) (hP : Par X) : ((List.range (2 ^ tS X)).flatMap fun j => tL X (rev (tS X) j)).Perm X.ents := by
  have hmod : ∀ j, rev (tS X) j % pw (tS X) = rev (tS X) j := fun j => Nat.mod_eq_of_lt (rev_lt _ _)
  have hents : X.ents = X.old.flatten ++ X.new.flatten := by unfold Tb.ents; rw [hI.ext]; simp
  obtain ⟨hs2, hs16, h | h | h⟩ := shape hI hP
  · obtain ⟨hn, hz, hL⟩ := h
    simp only [hL, hmod]
    rw [hents, hn, List.flatten_nil, List.append_nil]
    rcases hz with ⟨a, b⟩ | ⟨a, b, cc⟩
    · have : X.old = [] := List.length_eq_zero_iff.1 a
      rw [this]
      simp
    · exact all_one (tS X) X.old cc
  · obtain ⟨hn, h1, h2, _, hL⟩ := h
    simp only [hL, hmod]
    rw [hents]
    exact all_two (tS X) X.old X.new h1 (by rw [h2, pw_succ]; rfl)
  · obtain ⟨hn, h1, h2, _, hL⟩ := h
    simp only [hL, hmod]
    rw [hents]
    exact (all_two (tS X) X.new X.old h1 (by rw [h2, pw_succ]; rfl)).trans List.perm_append_comm
theorem whole_keys {X : Tb} (hI : Inv X) (hP : Par X) : ((List.range (2 ^ tS X)).flatMap fun j => tK X (rev (tS X) j)).Perm (kys X.ents) := by
  have h := (whole_perm hI hP).map fun e => e.2.1
  rw [List.map_flatMap] at h
  exact h
/-- A count that is above all keys, and turns enough: the walk is whole. -/
theorem scanF_whole {α : Type} (s : Nat) (L : Nat → List α) (count : Nat) : ∀ (f i : Nat) (acc : List α), i < 2 ^ s → 2 ^ s ≤ f + i → (acc ++ (List.range' i (2 ^ s - i)).flatMap fun j => L (rev s j)).length < count →
    scanF s L count f (rev s i) acc = (0, acc ++ (List.range' i (2 ^ s - i)).flatMap fun j => L (rev s j)) := by
  intro f
  induction f with
  | zero => intro i acc hi h; omega
  | succ f ih =>
    intro i acc hi hf hc
    obtain ⟨hw1, hw2⟩ := walk_at s i hi
    have hr : List.range' i (2 ^ s - i) = i :: List.range' (i + 1) (2 ^ s - (i + 1)) := by
      rw [show 2 ^ s - i = (2 ^ s - (i + 1)) + 1 by omega, List.range'_succ]
    rw [hr, List.flatMap_cons, ← List.append_assoc] at hc ⊢
    by_cases hz : i + 1 = 2 ^ s
    · rw [scanF_end (Or.inr (hw2.2 hz)), hw2.2 hz, show 2 ^ s - (i + 1) = 0 by omega]
      simp
    · have hno : ¬(count ≤ (acc ++ L (rev s i)).length ∨ nxt s (rev s i) = 0) := by
        rintro (h | h)
        · rw [List.length_append] at hc; omega
        · exact hz (hw2.1 h)
      rw [scanF_more hno, hw1]
      exact ih (i + 1) (acc ++ L (rev s i)) (by omega) (by omega) hc
theorem scan_whole {X : Tb} (hI : Inv X) (hP : Par X) (count f : Nat) (hc : X.count < count) (hf : 2 ^ tS X ≤ f) : ∃ K, scanF (tS X) (tK X) count f 0 [] = (0, K) ∧ K.Perm (kys X.ents) := by
  have hp := whole_keys hI hP
  have hl := hp.length_eq
  rw [kys_len, ← hI.cnt] at hl
  have h := scanF_whole (tS X) (tK X) count f 0 [] (Nat.pos_of_ne_zero (by simp)) (by omega) (by rw [List.nil_append, Nat.sub_zero, ← List.range_eq_range']; omega)
  rw [rev_zero, List.nil_append, Nat.sub_zero, ← List.range_eq_range'] at h
  exact ⟨_, h, hp⟩

/-- All keys that were put are there. -/
def AliveHas (i : Nat) (X : Tb) : Prop := ∀ j, j < i → ∃ b, (b, kk j, (j : Int)) ∈ X.ents
theorem alive_has {B i : Nat} {X G : Tb} {w w' : World} {new : Bool} (ha : AliveAt i X) (hh : AliveHas i X) (hi : i < 5) (hX : Inv X) (hp : PutRes B X G (kk i) (i : Int) new w w') : AliveHas (i + 1) G := by
  obtain ⟨hn, hol⟩ := ha.low (by omega)
  have hr : rem X = 0 := (rem_zero hX).2 hn
  obtain ⟨Y, m, hS, hm, hhow⟩ := hp.how
  obtain rfl : Y = X := steps_zero hS (by omega)
  rcases hhow with ⟨_, hv⟩ | ⟨hnew, hno, hc⟩
  · obtain ⟨b, old, R, h1, _⟩ := hv.ents
    obtain ⟨j, hj, hk⟩ := ha.keys (b, kk i, old) (h1.mem_iff.2 (List.mem_cons_self ..))
    exact absurd hk.symm (kk_ne hi hj)
  · obtain ⟨b, he⟩ := hc.ents
    intro j hj
    by_cases hji : j = i
    · subst hji; exact ⟨b, he.mem_iff.2 (List.mem_cons_self ..)⟩
    · obtain ⟨b', hb'⟩ := hh j (by omega)
      exact ⟨b', he.mem_iff.2 (List.mem_cons_of_mem _ hb')⟩
theorem kys_mem {X : Tb} {k : ByteArray} : k ∈ kys X.ents ↔ ∃ e ∈ X.ents, e.2.1 = k := by unfold kys; simp

end Go.Proofs.YtdldgiicblmknaaDoor
