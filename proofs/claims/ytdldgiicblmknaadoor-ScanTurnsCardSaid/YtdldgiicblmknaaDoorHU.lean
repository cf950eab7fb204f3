/-
  The walks of the laws' far and alive. The table of factors holds what the program's text lays.
-/
import Derived.Test.YtdldgiicblmknaaDoorHT
namespace Go.Proofs.YtdldgiicblmknaaDoor
open Go.RowKit

theorem stepN_len : ∀ (m : Nat) (X : Tb), Inv X → m ≤ rem X → ((stepN m X).new.length = X.new.length ∧ (stepN m X).old.length = X.old.length) ∨ ((stepN m X).new = [] ∧ (stepN m X).old.length = X.new.length ∧ 0 < m) := by
  intro m
  induction m with
  | zero => intro X _ _; exact Or.inl ⟨rfl, rfl⟩
  | succ m ih =>
    intro X h hm
    have hn : X.new ≠ [] := fun hh => by have := (rem_zero h).2 hh; omega
    have hr := rem_step h hn
    obtain ⟨h1, _, _⟩ := foldP X.seed (X.old.getD X.moved []) X.new (List.length_pos_iff.2 hn)
    show (((stepN m (stepX X)).new.length = _ ∧ _) ∨ ((stepN m (stepX X)).new = [] ∧ _ ∧ _))
    by_cases hd : X.moved + 1 = X.old.length
    · have hz : rem (stepX X) = 0 := by unfold rem stepX; rw [if_pos hd]; simp
      have hm0 : m = 0 := by omega
      subst hm0
      refine Or.inr ⟨?_, ?_, by omega⟩
      · show (stepX X).new = []
        unfold stepX; rw [if_pos hd]
      · show (stepX X).old.length = _
        unfold stepX; rw [if_pos hd]; exact h1
    · have hln : (stepX X).new.length = X.new.length := by unfold stepX; rw [if_neg hd]; exact h1
      have hlo : (stepX X).old.length = X.old.length := by unfold stepX; rw [if_neg hd]; simp
      rcases ih (stepX X) (stepX_inv h hn) (by omega) with ⟨h2, h3⟩ | ⟨h2, h3, h4⟩
      · exact Or.inl ⟨h2.trans hln, h3.trans hlo⟩
      · exact Or.inr ⟨h2, h3.trans hln, by omega⟩

theorem ent_one : ∀ {l : List En}, (l.map fun e => e.2.1).Nodup → ∀ e ∈ l, ∀ e' ∈ l, e.2.1 = e'.2.1 → e = e' := by
  intro l
  induction l with
  | nil => intro _ e he; cases he
  | cons x l ih =>
    intro hn e he e' he' hk
    rw [List.map_cons, List.nodup_cons] at hn
    rcases List.mem_cons.1 he with h1 | h1
    · rcases List.mem_cons.1 he' with h2 | h2
      · rw [h1, h2]
      · exact absurd (by rw [← h1, hk]; exact List.mem_map_of_mem (f := fun e : En => e.2.1) h2) hn.1
    · rcases List.mem_cons.1 he' with h2 | h2
      · exact absurd (by rw [← h2, ← hk]; exact List.mem_map_of_mem (f := fun e : En => e.2.1) h1) hn.1
      · exact ih hn.2 e h1 e' h2 hk
theorem Ok.on {B : Nat} {X : Tb} {w w' : World} {O : List Nat} (h : Ok B X w) (ho : Only O w w') (hO : ∀ x ∈ O, x ∉ X.blocks) (hz : 0 ∉ O) : Ok B X w' :=
  ⟨⟨h.live.here.on ho (fun b hb hm => hO b hm hb), h.inv.good, fac_only h.live.fac (by have := h.live.pos; have := h.live.le; omega) ho hz, h.live.pos, by have := h.live.le; have := ho.size; omega, h.live.own⟩, h.inv⟩

/-- The keys of alive. -/
def kk : Nat → ByteArray
  | 0 => ⟨#[97]⟩
  | 1 => ⟨#[98]⟩
  | 2 => ⟨#[99]⟩
  | 3 => ⟨#[100]⟩
  | _ => ⟨#[101]⟩
theorem kk_size (i : Nat) : (kk i).size ≤ 1000 := by
  unfold kk; split <;> (show (1 : Nat) ≤ 1000; omega)
theorem kk_ne {i j : Nat} (hi : i < 5) (hj : j < i) : kk j ≠ kk i := by
  have hall : ∀ a b : Fin 5, b.val < a.val → kk b.val ≠ kk a.val := by decide
  exact hall ⟨i, hi⟩ ⟨j, by omega⟩ hj
structure AliveAt (i : Nat) (X : Tb) : Prop where
  cnt : X.count = i
  keys : ∀ e ∈ X.ents, ∃ j, j < i ∧ e.2.1 = kk j
  has : 3 ≤ i → ∃ b, (b, kk 2, (2 : Int)) ∈ X.ents
  low : i ≤ 4 → X.new = [] ∧ X.old.length = (if i = 0 then 0 else 4)
  top : i = 5 → X.new.length = 8 ∧ X.moved = 0 ∧ X.old.length = 4
theorem steps_zero {X Y : Tb} {m : Nat} (h : Steps X Y m) (hm : m = 0) : Y = X := by rw [h.eq, hm]; rfl
theorem alive_put {B i : Nat} {X G : Tb} {w w' : World} {new : Bool} (ha : AliveAt i X) (hi : i < 5) (hX : Inv X) (hp : PutRes B X G (kk i) (i : Int) new w w') : new = true ∧ AliveAt (i + 1) G := by
  obtain ⟨hn, hol⟩ := ha.low (by omega)
  have hr : rem X = 0 := (rem_zero hX).2 hn
  obtain ⟨Y, m, hS, hm, hh⟩ := hp.how
  obtain rfl : Y = X := steps_zero hS (by omega)
  rcases hh with ⟨_, hv⟩ | ⟨hnew, hno, hc⟩
  · obtain ⟨b, old, R, h1, _⟩ := hv.ents
    obtain ⟨j, hj, hk⟩ := ha.keys (b, kk i, old) (h1.mem_iff.2 (List.mem_cons_self ..))
    exact absurd hk.symm (kk_ne hi hj)
  · refine ⟨hnew, ?_⟩
    obtain ⟨b, he⟩ := hc.ents
    have hopen : openLen Y = 4 := by
      unfold openLen
      by_cases h0 : i = 0
      · rw [if_pos ⟨hn, List.length_eq_zero_iff.1 (by rw [hol, if_pos h0])⟩]
      · split
        · rfl
        · rw [hol, if_neg h0]
    have hcn := ha.cnt
    refine ⟨by rw [hc.count, hcn], ?_, ?_, ?_, ?_⟩
    · intro e hm
      rcases List.mem_cons.1 (he.mem_iff.1 hm) with rfl | hm
      · exact ⟨i, by omega, rfl⟩
      · obtain ⟨j, hj, hk⟩ := ha.keys e hm
        exact ⟨j, by omega, hk⟩
    · intro h3
      by_cases h2 : i = 2
      · subst h2; exact ⟨b, he.mem_iff.2 (List.mem_cons_self ..)⟩
      · obtain ⟨b', hb'⟩ := ha.has (by omega)
        exact ⟨b', he.mem_iff.2 (List.mem_cons_of_mem _ hb')⟩
    · intro h4
      refine ⟨?_, by rw [hc.old, hopen]; simp⟩
      rcases hc.new with ⟨h5, _⟩ | ⟨_, h5, _⟩ | ⟨_, h5, _⟩
      · exact absurd hn h5
      · exact h5
      · rw [hopen] at h5; omega
    · intro h5
      rcases hc.new with ⟨h6, _⟩ | ⟨_, _, h6⟩ | ⟨_, h6, h7, h8⟩
      · exact absurd hn h6
      · rw [hopen] at h6; have := h6 (by omega); omega
      · exact ⟨by rw [h7, hopen], h8, by rw [hc.old, hopen]⟩

/-- The table's own row of keys. -/
def KRow (w : World) (g : Nat) : Prop := w.heap[g]? = some (.cells #[.string ⟨#[97]⟩, .string ⟨#[98]⟩, .string ⟨#[99]⟩, .string ⟨#[100]⟩, .string ⟨#[101]⟩] 9 (0, 0))
theorem krow_cell {w : World} {g : Nat} (h : KRow w g) {i : Nat} (hi : i < 5) : w.cell? ⟨g, i, none⟩ = some (.string (kk i)) := by
  have := Lib.cell_of_heap h i
  rw [this]
  rcases i with _ | _ | _ | _ | _ | i
  · rfl
  · rfl
  · rfl
  · rfl
  · rfl
  · omega


end Go.Proofs.YtdldgiicblmknaaDoor
