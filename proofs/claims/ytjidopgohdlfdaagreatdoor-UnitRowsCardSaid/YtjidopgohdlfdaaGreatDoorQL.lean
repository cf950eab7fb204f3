/-
  The walk of Feed. Premises: the Input is such as Feed tells; numbers are small; the library's variable ErrSyntax holds an error, or none.
-/
import Derived.Test.YtjidopgohdlfdaaGreatDoorQK
namespace Go.Proofs.YtjidopgohdlfdaaGreatDoor
open Go.RowKit Dec Pq S4

theorem below_poke {B : Nat} {w w' : World} (h : Below B w w') (a : Addr) (v : Value) : Below B (w.setCell a v) (w'.setCell a v) := by
  refine ⟨h.os, h.tape, h.output, by simpa using h.size, fun i hi => ?_⟩
  simp only [World.setCell, Array.getElem?_modify]
  rw [h.block i hi]
theorem Held.first {w0 W2 W : World} {g : Nat} {u : Value} {ss : List ByteArray} (hown : W2.ownsRow w0.heap.size 9 1 u ss.length (strV ss)) (hB2 : Below w0.heap.size w0 W2) (hb : Below W2.heap.size W2 W) (hg : W2.heap.size ≤ g) (hl : g < W.heap.size) :
    Held w0 g u (.slice none 0 0) ss [] W := by
  have hlt : ∀ b, u.ownBlock = some b → b < W2.heap.size := fun b e => (hown.lt b e).2
  refine ⟨hown.kept (row := some W2.heap.size) (grown_on hb _) (Or.inr fun e => ?_), ⟨[], World.ownsRow_nil _ _ _ _, rfl, by simp, fun i p h => by simp at h⟩, fun e => ?_, by simp [Value.ownBlock], fun b _ => by simp [Value.ownBlock], hB2.trans (hb.mono hB2.size), hl, Nat.le_trans hB2.size hg⟩
  · have := hlt _ e; omega
  · have := hlt _ e; omega
/-- The row of an Input, as it is handed in. -/
def RowIn (w : World) (a : Option Addr) (c : Nat) (ss : List ByteArray) : Prop := (ss = [] → a = none ∧ c = 0) ∧ SOk w (fun _ => True) a ss
theorem clone_row (a : Option Addr) (c : Nat) (ss : List ByteArray) (w : World) (hn : ss.length ≤ 65536) (hr : RowIn w a c ss) :
    Calls Tryz.prog 56 #[.slice a ss.length c] w fun e w' => ∃ a' c', e = .returned (.slice a' ss.length c') ∧ (ss = [] → a' = none ∧ c' = 0) ∧ w'.ownsRow w.heap.size 9 1 (.slice a' ss.length c') ss.length (strV ss) ∧ Below w.heap.size w w' := by
  by_cases h0 : ss = []
  · obtain ⟨rfl, rfl⟩ := hr.1 h0
    subst h0
    exact (row_nil w).mono fun e w' ⟨h1, h2⟩ => ⟨none, 0, h1, fun _ => ⟨rfl, rfl⟩, World.ownsRow_nil _ _ _ _, by rw [← h2]; exact Below.refl _ _⟩
  · obtain ⟨x, hx⟩ : ∃ x, ss[0]? = some x := ⟨_, List.getElem?_eq_getElem (List.length_pos_iff.2 h0)⟩
    obtain ⟨ad, rfl, _⟩ := hr.2 0 x hx
    refine (row_some ad c ss w hn (fun i y hy => ?_)).mono fun e w' ⟨v, h1, h2, h3⟩ => ?_
    · obtain ⟨a', e1, _, h3, h4⟩ := hr.2 i y hy
      cases e1
      exact ⟨h4, h3⟩
    · obtain ⟨g, cap, rfl, _, _⟩ := h2.form (List.length_pos_iff.2 h0)
      exact ⟨_, _, h1, fun h => absurd h h0, h2, h3⟩
theorem firstF_err {mark : UInt8} {most over : Int} {s : List UInt8} {k : Int} (h : firstF mark most over s = .inl k) : k = -1 ∨ k = 5 ∨ k = over := by
  have key : ∀ (t pre : List UInt8), firstGo most over pre t = .inl k → k = -1 ∨ k = 5 ∨ k = over := by
    intro t
    induction t with
    | nil => intro pre h; rw [firstGo] at h; exact Or.inl (Sum.inl.inj h).symm
    | cons c t ih =>
      intro pre h
      rw [firstGo] at h
      split at h
      · split at h
        · split at h
          · exact Or.inr (Or.inl (Sum.inl.inj h).symm)
          · exact Or.inr (Or.inr (Sum.inl.inj h).symm)
        · split at h
          · exact Or.inr (Or.inr (Sum.inl.inj h).symm)
          · exact ih _ h
      · split at h
        · exact Or.inr (Or.inl (Sum.inl.inj h).symm)
        · unfold lfF at h
          split at h
          · exact Or.inl (Sum.inl.inj h).symm
          · split at h
            · exact Or.inr (Or.inl (Sum.inl.inj h).symm)
            · cases h
  cases s with
  | nil => exact Or.inl (Sum.inl.inj h).symm
  | cons c t =>
    rw [firstF] at h
    split at h
    · exact Or.inr (Or.inl (Sum.inl.inj h).symm)
    · exact key t [] h
theorem lineGo_err {L : Nat} {k : Int} : ∀ (t pre : List UInt8), lineGo L pre t = .inl k → k = -1 ∨ k = 6 := by
  intro t
  induction t with
  | nil =>
    intro pre h
    rw [lineGo] at h
    split at h
    · exact Or.inr (Sum.inl.inj h).symm
    · exact Or.inl (Sum.inl.inj h).symm
  | cons c t ih =>
    intro pre h
    rw [lineGo] at h
    split at h
    · exact Or.inr (Sum.inl.inj h).symm
    · split at h
      · cases h
      · exact ih _ h
theorem step_err {A B L : Nat} {x : Inp} {k : Int} (h : stepF A B L x = .inl k) : k = -1 ∨ 0 < k := by
  unfold stepF at h
  split at h
  · cases hs : x.rest with
    | nil => rw [hs] at h; exact Or.inl (Sum.inl.inj h).symm
    | cons c t =>
      rw [hs] at h
      by_cases hc : c = 42
      · subst hc
        rw [start_count, countF] at h
        cases hf : firstF 42 (A : Int) 7 (42 :: t) with
        | inl e =>
          rw [hf] at h
          obtain rfl := Sum.inl.inj h
          rcases firstF_err hf with h | h | h <;> omega
        | inr p => rw [hf] at h; cases h
      · rw [start_line hc, lineF] at h
        cases hf : oneF A B L (c :: t) with
        | inl e =>
          rw [hf] at h
          obtain rfl := Sum.inl.inj h
          cases hl : lineGo L [] (c :: t) with
          | inl e2 =>
            unfold oneF at hf
            rw [hl] at hf
            obtain rfl := Sum.inl.inj hf
            rcases lineGo_err _ _ hl with h | h <;> omega
          | inr p =>
            rw [oneF_arg hl] at hf
            cases ha : argF A B (strip p) with
            | inl e3 =>
              rw [ha] at hf
              obtain rfl := Sum.inl.inj hf
              rcases argF_err ha with h | h | h <;> omega
            | inr l => rw [ha] at hf; cases hf
        | inr p => rw [hf] at h; cases h
  · split at h
    · unfold headF at h
      cases hf : firstF 36 (B : Int) 6 x.rest with
      | inl e =>
        rw [hf] at h
        obtain rfl := Sum.inl.inj h
        rcases firstF_err hf with h | h | h <;> omega
      | inr p => rw [hf] at h; cases h
    · unfold bodyF bodyG at h
      split at h
      · exact Or.inl (Sum.inl.inj h).symm
      · split at h
        · cases h
        · obtain rfl := Sum.inl.inj h
          rcases endsF_cases (x.rest.drop x.need) with h | h | h <;> omega
end Go.Proofs.YtjidopgohdlfdaaGreatDoor
