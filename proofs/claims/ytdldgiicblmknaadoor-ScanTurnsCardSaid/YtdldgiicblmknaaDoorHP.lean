/-
  The walks that open, grow and shrink, of a whole table; what a table is when a key comes. The table of factors holds what the program's text lays; a table's shape.
-/
import Derived.Test.YtdldgiicblmknaaDoorHO
namespace Go.Proofs.YtdldgiicblmknaaDoor
open Go.RowKit

theorem SzOk.len2 {n k : Nat} (h : SzOk n k) (h0 : n ≠ 0) : n = pw k ∧ 2 ≤ k ∧ k ≤ 16 := by
  rcases h with ⟨h1, _⟩ | ⟨h1, h2, h3⟩
  · exact absurd h1 h0
  · exact ⟨h3, h1, h2⟩
/-- What a half that opens is. -/
def IsOpen (Z : Tb) (b : Nat) (v : Value) : Prop := (Z.new ≠ [] ∧ Z.p1 = some b ∧ v = .slice (some ⟨b, 0, none⟩) Z.new.length Z.new.length) ∨ (Z.new = [] ∧ Z.old ≠ [] ∧ Z.p0 = some b ∧ v = .slice (some ⟨b, 0, none⟩) Z.old.length Z.old.length)
/-- The places of a table that a key may come to. -/
def openL (Y : Tb) : List (List En) := if Y.new = [] ∧ Y.old = [] then List.replicate 4 [] else Y.old
def openLen (Y : Tb) : Nat := if Y.new = [] ∧ Y.old = [] then 4 else Y.old.length

theorem open_ok {B : Nat} {Y : Tb} {w : World} (h : Ok B Y w) :
    Calls Tryd.prog 44 #[.pointer (some ⟨Y.T, 0, none⟩)] w fun r w' => ∃ (Z : Tb) (b : Nat) (v : Value), r = .returned v ∧ IsOpen Z b v ∧ Ok B Z w' ∧ Only [Y.T] w w' ∧ Z.ents = Y.ents ∧ Z.T = Y.T ∧ Z.seed = Y.seed ∧ Z.count = Y.count ∧ Z.moved = Y.moved ∧ Z.new = Y.new ∧ Z.old.length = openLen Y ∧ Z.old = openL Y ∧ (∀ x ∈ Z.blocks, x ∈ Y.blocks ∨ w.heap.size ≤ x) := by
  have htab := h.live.here.tab
  by_cases hn : Y.new = []
  · cases hp : Y.p0 with
    | some b =>
      have ho : Y.old ≠ [] := fun he => by have := h.live.here.p0.2 he; rw [hp] at this; cases this
      rw [hp, hn] at htab
      refine (open_old w htab).mono ?_
      rintro r w' ⟨rfl, rfl⟩
      exact ⟨Y, b, _, rfl, Or.inr ⟨hn, ho, hp, rfl⟩, h, Only.refl _ _, rfl, rfl, rfl, rfl, rfl, rfl, by simp [openLen, ho], by simp [openL, ho], fun x hx => Or.inl hx⟩
    | none =>
      have ho := h.live.here.p0.1 hp
      rw [hp, hn, ho] at htab
      refine (open_make w htab).mono ?_
      rintro r w' ⟨rfl, hon, ht, hpl, hlt⟩
      have hT : Y.T ∈ Y.blocks := by simp [Tb.blocks]
      have hh : Here { Y with p0 := some w.heap.size, old := List.replicate 4 [] } w' := re_open h.live.here hp w.heap.size 4 (by omega) (Nat.le_refl _) hon (by unfold TabC at ht; rw [ht]; simp [Tb.head, adr, hn, h.live.here.p1.2 hn]) hpl
      have hents : ({ Y with p0 := some w.heap.size, old := List.replicate 4 [] } : Tb).ents = Y.ents := by simp [Tb.ents, ho]
      have hinv : Inv { Y with p0 := some w.heap.size, old := List.replicate 4 [] } := by
        refine ⟨⟨h.inv.good.seed, ⟨2, Or.inr ⟨by omega, by omega, by simp [pw]⟩⟩, h.inv.good.s1, fun hh => absurd hn hh, ?_, h.inv.good.ct⟩, fun hh => absurd hn hh, ?_, ?_, plOk_nils _ _, h.inv.pl1, h.inv.ext⟩
        · rw [hents]; exact h.inv.good.ks
        · rw [hents]; exact h.inv.cnt
        · rw [hents]; exact h.inv.nd
      have hblk : ∀ x ∈ ({ Y with p0 := some w.heap.size, old := List.replicate 4 [] } : Tb).blocks, x ∈ Y.blocks ∨ w.heap.size ≤ x := by
        intro x hx
        unfold Tb.blocks at hx ⊢
        rw [hents] at hx
        simp only [List.mem_cons, List.mem_append, Option.mem_toList, Option.some.injEq] at hx ⊢
        rcases hx with hx | hx | hx | hx
        · exact Or.inl (Or.inl hx)
        · exact Or.inr (by omega)
        · exact Or.inl (Or.inr (Or.inr (Or.inl hx)))
        · exact Or.inl (Or.inr (Or.inr (Or.inr hx)))
      exact ⟨{ Y with p0 := some w.heap.size, old := List.replicate 4 [] }, w.heap.size, _, rfl, Or.inr ⟨hn, by simp, rfl, by simp⟩, h.next (hon.mono (fun x hx => by simp at hx; rw [hx]; exact hT)) hh hinv hblk, hon, hents, rfl, rfl, rfl, rfl, rfl, by simp [openLen, hn, ho], by simp [openL, hn, ho], hblk⟩
  · obtain ⟨b, hp⟩ : ∃ b, Y.p1 = some b := by
      cases hp : Y.p1 with
      | none => exact absurd (h.live.here.p1.1 hp) hn
      | some b => exact ⟨b, rfl⟩
    rw [hp] at htab
    refine (open_new w htab (List.length_pos_iff.2 hn)).mono ?_
    rintro r w' ⟨rfl, rfl⟩
    exact ⟨Y, b, _, rfl, Or.inl ⟨hn, hp, rfl⟩, h, Only.refl _ _, rfl, rfl, rfl, rfl, rfl, rfl, by simp [openLen, hn], by simp [openL, hn], fun x hx => Or.inl hx⟩

/-- What a table has still, when it may have been parted. -/
structure Kept (B : Nat) (Z G : Tb) (w w' : World) : Prop where
  ok : Ok B G w'
  only : Only [Z.T] w w'
  ents : G.ents = Z.ents
  same : G.T = Z.T ∧ G.seed = Z.seed ∧ G.count = Z.count ∧ G.old = Z.old
  blk : ∀ x ∈ G.blocks, x ∈ Z.blocks ∨ w.heap.size ≤ x
theorem kept_drew {B : Nat} {Z : Tb} {w : World} (h : Ok B Z w) (n : Nat) : Kept B Z Z w (w.drewN n) :=
  ⟨h.next ((Only.refl _ w).drewN n) (h.live.here.on ((Only.refl [] w).drewN n) (fun _ _ => by simp)) h.inv (fun x hx => Or.inl hx), (Only.refl _ w).drewN n, rfl, ⟨rfl, rfl, rfl, rfl⟩, fun x hx => Or.inl hx⟩
theorem kept_part {B : Nat} {Z : Tb} {w w' : World} (h : Ok B Z w) (hn : Z.new = []) (ho : Z.old ≠ []) (k : Nat) (hk2 : 2 ≤ k) (hk : k ≤ 16) (hon : Only [Z.T] w w') (ht : TabC w' Z.T Z.seed (adr Z.p0) (some ⟨w.heap.size, 0, none⟩) Z.old.length (pw k) 0 Z.count) (hpl : w'.heap[w.heap.size]? = some (plObj (List.replicate (pw k) []))) :
    Kept B Z { Z with p1 := some w.heap.size, new := List.replicate (pw k) [], moved := 0 } w w' := by
  have hpos := pw_pos k
  have hT : Z.T ∈ Z.blocks := by simp [Tb.blocks]
  have hp := h.live.here.p1.2 hn
  have hh := re_part h.live.here hp w.heap.size (pw k) hpos (Nat.le_refl _) hon (by unfold TabC at ht; rw [ht]; simp [Tb.head, adr]) hpl
  have hents : ({ Z with p1 := some w.heap.size, new := List.replicate (pw k) [], moved := 0 } : Tb).ents = Z.ents := by simp [Tb.ents, hn]
  have hinv : Inv { Z with p1 := some w.heap.size, new := List.replicate (pw k) [], moved := 0 } := by
    refine ⟨⟨h.inv.good.seed, h.inv.good.s0, ⟨k, Or.inr ⟨hk2, hk, by simp⟩⟩, fun _ => List.length_pos_iff.2 ho, ?_, h.inv.good.ct⟩, fun _ i hi => by simp at hi, ?_, ?_, h.inv.pl0, plOk_nils _ _, h.inv.ext⟩
    · rw [hents]; exact h.inv.good.ks
    · rw [hents]; exact h.inv.cnt
    · rw [hents]; exact h.inv.nd
  have hblk : ∀ x ∈ ({ Z with p1 := some w.heap.size, new := List.replicate (pw k) [], moved := 0 } : Tb).blocks, x ∈ Z.blocks ∨ w.heap.size ≤ x := by
    intro x hx
    unfold Tb.blocks at hx ⊢
    rw [hents] at hx
    simp only [List.mem_cons, List.mem_append, Option.mem_toList, Option.some.injEq] at hx ⊢
    rcases hx with hx | hx | hx | hx
    · exact Or.inl (Or.inl hx)
    · exact Or.inl (Or.inr (Or.inl hx))
    · exact Or.inr (by omega)
    · exact Or.inl (Or.inr (Or.inr (Or.inr hx)))
  exact ⟨h.next (hon.mono (fun x hx => by simp at hx; rw [hx]; exact hT)) hh hinv hblk, hon, hents, ⟨rfl, rfl, rfl, rfl⟩, hblk⟩

theorem grow_ok {B : Nat} {Z : Tb} {w : World} (h : Ok B Z w) (ho : Z.old ≠ []) :
    Calls Tryd.prog 46 #[.pointer (some ⟨Z.T, 0, none⟩)] w fun r w' => r = .returned (.tuple #[]) ∧ ∃ G, Kept B Z G w w' ∧
      ((G = Z ∧ (Z.new = [] → Z.old.length < Z.count → Z.old.length = 65536)) ∨ (Z.new = [] ∧ Z.old.length < Z.count ∧ G.new.length = 2 * Z.old.length ∧ G.moved = 0 ∧ G.new = List.replicate (2 * Z.old.length) [])) := by
  obtain ⟨k, hk⟩ := h.inv.good.s0
  have hl0 : Z.old.length ≠ 0 := fun hh => ho (List.length_eq_zero_iff.1 hh)
  obtain ⟨hpk, hk2, hk16⟩ := hk.len2 hl0
  have htab := h.live.here.tab
  by_cases hn : Z.new = []
  · by_cases h1 : Z.old.length < Z.count
    · by_cases h2 : k < 16
      · rw [h.live.here.p1.2 hn, hn] at htab
        refine (grow_yes w htab hk h1 h2).mono ?_
        rintro r w' ⟨rfl, hon, ht, hpl, hlt⟩
        exact ⟨rfl, _, kept_part h hn ho (k + 1) (by omega) (by omega) hon ht hpl, Or.inr ⟨hn, h1, by simp [pw_succ, ← hpk], rfl, by simp [pw_succ, ← hpk]⟩⟩
      · have hk' : k = 16 := by omega
        refine (grow_no w htab hk (Or.inr (Or.inr ⟨by rw [hn]; rfl, h1, h2⟩))).mono ?_
        rintro r w' ⟨rfl, n, rfl⟩
        exact ⟨rfl, Z, kept_drew h n, Or.inl ⟨rfl, fun _ _ => by rw [hpk, hk']; rfl⟩⟩
    · refine (grow_no w htab hk (Or.inr (Or.inl ⟨by rw [hn]; rfl, by omega⟩))).mono ?_
      rintro r w' ⟨rfl, n, rfl⟩
      exact ⟨rfl, Z, kept_drew h n, Or.inl ⟨rfl, fun _ hh => absurd hh h1⟩⟩
  · refine (grow_no w htab hk (Or.inl (List.length_pos_iff.2 hn))).mono ?_
    rintro r w' ⟨rfl, n, rfl⟩
    exact ⟨rfl, Z, kept_drew h n, Or.inl ⟨rfl, fun hh => absurd hh hn⟩⟩

theorem shrink_ok {B : Nat} {Z : Tb} {w : World} (h : Ok B Z w) :
    Calls Tryd.prog 47 #[.pointer (some ⟨Z.T, 0, none⟩)] w fun r w' => r = .returned (.tuple #[]) ∧ ∃ G, Kept B Z G w w' ∧
      (G = Z ∨ (Z.new = [] ∧ 2 * G.new.length = Z.old.length ∧ G.moved = 0 ∧ G.new = List.replicate G.new.length [])) := by
  obtain ⟨k, hk⟩ := h.inv.good.s0
  have htab := h.live.here.tab
  have hct := h.inv.good.ct
  by_cases hn : Z.new = []
  · by_cases h1 : 2 < k
    · have hl0 : Z.old.length ≠ 0 := by
        rcases hk with ⟨_, h2⟩ | ⟨_, _, h3⟩
        · omega
        · have := pw_pos k; omega
      have ho : Z.old ≠ [] := fun hh => hl0 (by rw [hh]; rfl)
      obtain ⟨hpk, hk2, hk16⟩ := hk.len2 hl0
      by_cases h2 : 8 * Z.count < Z.old.length
      · rw [h.live.here.p1.2 hn, hn] at htab
        refine (shrink_yes w htab hk hct h2 h1).mono ?_
        rintro r w' ⟨rfl, hon, ht, hpl, hlt⟩
        have hps := pw_succ (k - 1)
        rw [show k - 1 + 1 = k by omega] at hps
        exact ⟨rfl, _, kept_part h hn ho (k - 1) (by omega) (by omega) hon ht hpl, Or.inr ⟨hn, by simp [hpk, hps], rfl, by simp⟩⟩
      · refine (shrink_no w htab hk hct (Or.inr (Or.inr ⟨by rw [hn]; rfl, h1, h2⟩))).mono ?_
        rintro r w' ⟨rfl, n, rfl⟩
        exact ⟨rfl, Z, kept_drew h n, Or.inl rfl⟩
    · refine (shrink_no w htab hk hct (Or.inr (Or.inl ⟨by rw [hn]; rfl, h1⟩))).mono ?_
      rintro r w' ⟨rfl, n, rfl⟩
      exact ⟨rfl, Z, kept_drew h n, Or.inl rfl⟩
  · refine (shrink_no w htab hk hct (Or.inl (List.length_pos_iff.2 hn))).mono ?_
    rintro r w' ⟨rfl, n, rfl⟩
    exact ⟨rfl, Z, kept_drew h n, Or.inl rfl⟩

end Go.Proofs.YtdldgiicblmknaaDoor
