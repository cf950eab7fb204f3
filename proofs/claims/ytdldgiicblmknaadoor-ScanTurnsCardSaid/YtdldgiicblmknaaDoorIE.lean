/-
  A parted table's sizes; what stands at a number's places, whichever half it is in. Mathematics; no condition.
-/
import Derived.Test.YtdldgiicblmknaaDoorHU
namespace Go.Proofs.YtdldgiicblmknaaDoor
open Go.RowKit

/-- A parted table's sizes are beside one another. -/
def Par (X : Tb) : Prop := X.new ≠ [] → X.new.length = 2 * X.old.length ∨ X.old.length = 2 * X.new.length
theorem par_new (T : Nat) (seed : Int) : Par (newX T seed) := fun h => absurd rfl h
theorem par_lens {X Y : Tb} (h : Par X) (h1 : Y.new.length = X.new.length) (h2 : Y.old.length = X.old.length) : Par Y := by
  intro hn
  have hx : X.new ≠ [] := fun hh => hn (List.length_eq_zero_iff.1 (by rw [h1, hh]; rfl))
  rw [h1, h2]
  exact h hx
theorem par_steps {X Y : Tb} {m : Nat} (hX : Inv X) (h : Par X) (hS : Steps X Y m) : Par Y := by
  have hm : m ≤ rem X := by have := hS.rem; omega
  rcases stepN_len m X hX hm with ⟨h1, h2⟩ | ⟨h1, _⟩
  · rw [← hS.eq] at h1 h2
    exact par_lens h h1 h2
  · rw [← hS.eq] at h1
    exact fun hn => absurd h1 hn
theorem par_put {B : Nat} {X G : Tb} {k : ByteArray} {v : Int} {new : Bool} {w w' : World} (hX : Inv X) (h : Par X) (hp : PutRes B X G k v new w w') : Par G := by
  obtain ⟨Y, m, hS, _, hh⟩ := hp.how
  have hY := par_steps hX h hS
  rcases hh with ⟨_, hv⟩ | ⟨_, _, hc⟩
  · exact par_lens hY hv.len.2.1 hv.len.1
  · rcases hc.new with ⟨h1, h2, _⟩ | ⟨_, h1, _⟩ | ⟨_, _, h1, _⟩
    · refine par_lens hY h2 ?_
      rw [hc.old]
      unfold openLen
      rw [if_neg (fun hh => h1 hh.1)]
    · exact fun hn => absurd h1 hn
    · exact fun _ => Or.inl (by rw [h1, hc.old])
theorem par_drop {B : Nat} {X G : Tb} {k : ByteArray} {gone : Bool} {w w' : World} (hX : Inv X) (h : Par X) (hp : DropRes B X G k gone w w') : Par G := by
  obtain ⟨Y, m, hS, _, hh⟩ := hp.how
  have hY := par_steps hX h hS
  rcases hh with ⟨_, rfl, _⟩ | ⟨_, hw⟩
  · exact hY
  · rcases hw.new with ⟨h1, _⟩ | ⟨_, h1, _⟩
    · exact par_lens hY h1 hw.old
    · exact fun _ => Or.inr (by rw [h1, hw.old])

/-- What stands at one place. -/
theorem at_place {seed : Int} {l : List (List En)} (hp : PlOk seed l) (c : Nat) (e : En) : e ∈ l.getD c [] ↔ (e ∈ l.flatten ∧ num seed e.2.1 % l.length = c) := by
  constructor
  · intro h
    cases hc : l[c]? with
    | none => simp [hc] at h
    | some d =>
      have hd : l.getD c [] = d := by simp [hc]
      rw [hd] at h
      exact ⟨List.mem_flatten.2 ⟨d, List.mem_of_getElem? hc, h⟩, hp c d hc e h⟩
  · rintro ⟨h1, h2⟩
    obtain ⟨d, hd, hed⟩ := List.mem_flatten.1 h1
    obtain ⟨i, hi⟩ := List.getElem?_of_mem hd
    have h3 := hp i d hi e hed
    have hic : i = c := by omega
    subst hic
    simp [hi, hed]
theorem mod_two (n p c : Nat) (hp : 0 < p) (hc : c < p) : n % p = c ↔ (n % (2 * p) = c ∨ n % (2 * p) = c + p) := by
  have h1 : n % (2 * p) % p = n % p := by rw [Nat.mul_comm]; exact Nat.mod_mul_right_mod n p 2
  have h2 := Nat.mod_lt n (show 0 < 2 * p by omega)
  generalize n % (2 * p) = r at *
  rw [← h1]
  constructor
  · intro h
    by_cases hr : r < p
    · rw [Nat.mod_eq_of_lt hr] at h; exact Or.inl h
    · have : r % p = r - p := by rw [Nat.mod_eq_sub_mod (by omega), Nat.mod_eq_of_lt (by omega)]
      right; omega
  · rintro (h | h)
    · rw [h, Nat.mod_eq_of_lt hc]
    · rw [h, Nat.add_mod_right, Nat.mod_eq_of_lt hc]
/-- What a turn tells of a table that is not parted: all of a number's place. -/
theorem told_one {X : Tb} (h : Inv X) (hn : X.new = []) (c : Nat) (e : En) : e ∈ X.old.getD c [] ↔ (e ∈ X.ents ∧ num X.seed e.2.1 % X.old.length = c) := by
  rw [at_place h.pl0]
  unfold Tb.ents
  rw [hn, h.ext]; simp
/-- What a turn tells of a parted one: of the lesser half its place, of the other one both places. -/
theorem told_two {seed : Int} {a b : List (List En)} (ha : PlOk seed a) (hb : PlOk seed b) (hl : b.length = 2 * a.length) (h0 : 0 < a.length) (c : Nat) (hc : c < a.length) (e : En) :
    e ∈ a.getD c [] ++ (b.getD c [] ++ b.getD (c + a.length) []) ↔ (e ∈ a.flatten ++ b.flatten ∧ num seed e.2.1 % a.length = c) := by
  rw [List.mem_append, List.mem_append, at_place ha, at_place hb, at_place hb, List.mem_append, hl]
  have hm := mod_two (num seed e.2.1) a.length c h0 hc
  constructor
  · rintro (⟨h1, h2⟩ | ⟨h1, h2⟩ | ⟨h1, h2⟩)
    · exact ⟨Or.inl h1, h2⟩
    · exact ⟨Or.inr h1, hm.2 (Or.inl h2)⟩
    · exact ⟨Or.inr h1, hm.2 (Or.inr h2)⟩
  · rintro ⟨h1 | h1, h2⟩
    · exact Or.inl ⟨h1, h2⟩
    · rcases hm.1 h2 with h3 | h3
      · exact Or.inr (Or.inl ⟨h1, h3⟩)
      · exact Or.inr (Or.inr ⟨h1, h3⟩)

end Go.Proofs.YtdldgiicblmknaaDoor
