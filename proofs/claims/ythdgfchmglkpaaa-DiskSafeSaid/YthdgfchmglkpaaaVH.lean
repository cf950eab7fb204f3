/-
  The library's merging of two parts of a row, where both have more than one file: what its three calls leave. Premise: the row lies in a block that is written in place.
-/
import Derived.Test.YthdgfchmglkpaaaChecked
import Derived.Test.YthdgfchmglkpaaaA
import Derived.Test.YthdgfchmglkpaaaL
import Derived.Test.YthdgfchmglkpaaaS
import Derived.Test.YthdgfchmglkpaaaVM
import Derived.Test.YthdgfchmglkpaaaVS
import Derived.Test.YthdgfchmglkpaaaVE
import Derived.Test.YthdgfchmglkpaaaVG
import Derived.WalkKit
import Derived.WalkSpells
import Derived.WalkLawsBesides
import Derived.Deep.QuietTactic
import Derived.BigQuiet
import Derived.Lib.Hide
import Derived.Lib.SmallJoins
import Derived.Outline
import Derived.OwnWalk
import Derived.Deep.CutBlock
import Derived.BigRegion
import Derived.StillTailTactics
import Derived.Laws.AppendOwnNone
import Derived.Maps.AppendAt
import Derived.Deep.RegionLaw
import Derived.Deep.RegionHeld3
import Derived.Lib.BufferRead
import Derived.Deep.AppendLies
namespace Go.Proofs.Ythdgfchmglkpaaa
open Go.RowKit
abbrev fnV : Value := .func (.func 51) #[] #[]
abbrev slV (g n cap : Nat) : Value := .slice (some ⟨g, 0, none⟩) n cap
/-- Two parts of a row, and where they are cut. -/
structure Cut2 (a m b n M s : Nat) (P X Y S : List TF) : Prop where
  ha : a = P.length
  hm : m = a + X.length
  hb : b = m + Y.length
  hn : (P ++ X ++ Y ++ S).length = n
  few : n ≤ 1000000
  sx : Srt X
  sy : Srt Y
  aft : Aft X Y
  hM : M ≤ X.length + Y.length
  s1 : M - Y.length ≤ s
  s2 : s ≤ X.length
  s3 : s ≤ M
  k1 : ∀ x ∈ X.take s, ∀ y ∈ Y.drop (M - s), ltT x y
  k2 : ∀ y ∈ Y.take (M - s), ∀ x ∈ X.drop s, ltT y x
/-- All calls of merging for fewer files. -/
def Fewer (g cap n d : Nat) : Prop := ∀ (w : World) (a m b : Nat) (P X Y S : List TF), X.length + Y.length < d → 0 < X.length → 0 < Y.length → Two w g cap a m b n P X Y S →
  Calls Try.prog 66 #[slV g n cap, .int .i64 (a : Int), .int .i64 (m : Int), .int .i64 (b : Int), fnV] w fun e w' => e = .returned (.tuple #[]) ∧ Merged g cap P X Y S w w'
def R2 (g cap M s : Nat) (P X Y S : List TF) (W : World) : Prop := SRow W g cap ((P ++ X.take s ++ Y.take (M - s) ++ (X.drop s ++ Y.drop (M - s) ++ S)).map (·.1))
def R3 (g cap M s : Nat) (P X Y S : List TF) (W : World) : Prop := ∃ Z, Z.Perm (X.take s ++ Y.take (M - s)) ∧ Srt Z ∧ SRow W g cap ((P ++ Z ++ X.drop s ++ Y.drop (M - s) ++ S).map (·.1))
theorem rot_call {W : World} {g cap a m b n M s p e : Nat} {P X Y S : List TF} (h : Cut2 a m b n M s P X Y S) (hr : SRow W g cap ((P ++ X ++ Y ++ S).map (·.1))) (h1 : s < X.length) (h2 : s < M) (hp : p = a + s) (he : e = m + (M - s)) (fv : Value) :
    Calls Try.prog 67 #[slV g n cap, .int .i64 (p : Int), .int .i64 (m : Int), .int .i64 (e : Int), fv] W fun e w' => e = .returned (.tuple #[]) ∧ R2 g cap M s P X Y S w' ∧ Only [g] W w' := by
  obtain ⟨ha, hm, hb, hn, few, sx, sy, aft, hM, s1, s2, s3, k1, k2⟩ := h
  have e1 : (P ++ X ++ Y ++ S).map (·.1) = (P ++ X.take s).map (·.1) ++ (X.drop s).map (·.1) ++ (Y.take (M - s)).map (·.1) ++ (Y.drop (M - s) ++ S).map (·.1) := by
    conv => lhs; rw [← List.take_append_drop s X, ← List.take_append_drop (M - s) Y]
    simp only [List.map_append, List.append_assoc]
  have e2 : (P ++ X.take s).map (·.1) ++ (Y.take (M - s)).map (·.1) ++ (X.drop s).map (·.1) ++ (Y.drop (M - s) ++ S).map (·.1) = (P ++ X.take s ++ Y.take (M - s) ++ (X.drop s ++ Y.drop (M - s) ++ S)).map (·.1) := by
    simp only [List.map_append, List.append_assoc]
  have hl : ((P ++ X ++ Y ++ S).map (·.1)).length = n := by rw [List.length_map, hn]
  rw [e1] at hr hl
  refine (rotate_any (a := p) (m := m) (b := e) fv hr (by simp; omega) (by simp; omega) (by simp; omega) (by simp; omega) (by simp; omega) hl few).mono ?_
  rintro e w' ⟨rfl, h3, h4⟩
  rw [e2] at h3
  exact ⟨rfl, h3, h4⟩
theorem rot_not {W : World} {g cap a m b n M s : Nat} {P X Y S : List TF} (h : Cut2 a m b n M s P X Y S) (hr : SRow W g cap ((P ++ X ++ Y ++ S).map (·.1))) (h1 : ¬ (s < X.length ∧ s < M)) : R2 g cap M s P X Y S W := by
  obtain ⟨ha, hm, hb, hn, few, sx, sy, aft, hM, s1, s2, s3, k1, k2⟩ := h
  unfold R2
  rcases Nat.lt_or_ge s X.length with h3 | h3
  · have : M - s = 0 := by omega
    rw [this, List.take_zero, List.drop_zero, List.append_nil]
    have e : P ++ X.take s ++ (X.drop s ++ Y ++ S) = P ++ X ++ Y ++ S := by
      conv => rhs; rw [← List.take_append_drop s X]
      simp only [List.append_assoc]
    rw [e]; exact hr
  · rw [List.take_of_length_le h3, List.drop_of_length_le h3, List.nil_append]
    have e : P ++ X ++ Y.take (M - s) ++ (Y.drop (M - s) ++ S) = P ++ X ++ Y ++ S := by
      conv => rhs; rw [← List.take_append_drop (M - s) Y]
      simp only [List.append_assoc]
    rw [e]; exact hr
theorem aft_part {X Y : List TF} (h : Aft X Y) {X' Y' : List TF} (hx : ∀ x ∈ X', x ∈ X) (hy : ∀ y ∈ Y', y ∈ Y) : Aft X' Y' := fun x h1 y h2 => h x (hx x h1) y (hy y h2)
theorem first_call {W : World} {g cap a m b n M s p q : Nat} {P X Y S : List TF} (h : Cut2 a m b n M s P X Y S) (hF : Fewer g cap n (X.length + Y.length)) (hr : R2 g cap M s P X Y S W) (h1 : 0 < s) (h2 : s < M) (h3 : M < X.length + Y.length) (hp : p = a + s) (hq : q = a + M) :
    Calls Try.prog 66 #[slV g n cap, .int .i64 (a : Int), .int .i64 (p : Int), .int .i64 (q : Int), fnV] W fun e w' => e = .returned (.tuple #[]) ∧ R3 g cap M s P X Y S w' ∧ Only [g] W w' := by
  obtain ⟨ha, hm, hb, hn, few, sx, sy, aft, hM, s1, s2, s3, k1, k2⟩ := h
  refine (hF W a p q P (X.take s) (Y.take (M - s)) (X.drop s ++ Y.drop (M - s) ++ S) (by simp; omega) (by simp; omega) (by simp; omega) ⟨hr, ha, by simp; omega, by simp; omega, ?_, few, sx.sublist (List.take_sublist _ _), sy.sublist (List.take_sublist _ _), aft_part aft (fun x hx => List.mem_of_mem_take hx) (fun x hx => List.mem_of_mem_take hx)⟩).mono ?_
  · rw [← hn]; simp; omega
  · rintro e w' ⟨rfl, ⟨Z, z1, z2, z3⟩, ho⟩
    refine ⟨rfl, ⟨Z, z1, z2, ?_⟩, ho⟩
    have e1 : P ++ Z ++ (X.drop s ++ Y.drop (M - s) ++ S) = P ++ Z ++ X.drop s ++ Y.drop (M - s) ++ S := by simp only [List.append_assoc]
    rw [e1] at z3
    exact z3
theorem first_not {W : World} {g cap a m b n M s : Nat} {P X Y S : List TF} (h : Cut2 a m b n M s P X Y S) (hr : R2 g cap M s P X Y S W) (h1 : ¬ (0 < s ∧ s < M)) : R3 g cap M s P X Y S W := by
  obtain ⟨ha, hm, hb, hn, few, sx, sy, aft, hM, s1, s2, s3, k1, k2⟩ := h
  refine ⟨_, List.Perm.refl _, ?_, ?_⟩
  · rcases Nat.eq_zero_or_pos s with h2 | h2
    · subst h2
      rw [List.take_zero, List.nil_append]
      exact sy.sublist (List.take_sublist _ _)
    · rw [show M - s = 0 by omega, List.take_zero, List.append_nil]
      exact sx.sublist (List.take_sublist _ _)
  · have e1 : P ++ (X.take s ++ Y.take (M - s)) ++ X.drop s ++ Y.drop (M - s) ++ S = P ++ X.take s ++ Y.take (M - s) ++ (X.drop s ++ Y.drop (M - s) ++ S) := by simp only [List.append_assoc]
    rw [e1]
    exact hr
theorem last_of {W : World} {g cap a m b n M s : Nat} {P X Y S Z Z2 : List TF} (h : Cut2 a m b n M s P X Y S) (z1 : Z.Perm (X.take s ++ Y.take (M - s))) (z2 : Srt Z) (y1 : Z2.Perm (X.drop s ++ Y.drop (M - s))) (y2 : Srt Z2) (hr : SRow W g cap ((P ++ Z ++ Z2 ++ S).map (·.1))) {w : World} (ho : Only [g] w W) : Merged g cap P X Y S w W := by
  obtain ⟨j1, j2⟩ := join_srt z2 y2 z1 y1 h.sx h.sy h.k1 h.k2
  refine ⟨⟨Z ++ Z2, j2, j1, ?_⟩, ho⟩
  rw [← List.append_assoc P]
  exact hr
theorem last_call {W w : World} {g cap a m b n M s p q : Nat} {P X Y S : List TF} (h : Cut2 a m b n M s P X Y S) (hF : Fewer g cap n (X.length + Y.length)) (hr : R3 g cap M s P X Y S W) (ho : Only [g] w W) (h1 : s < X.length) (h2 : M - s < Y.length) (h3 : 0 < M) (hp : p = a + M) (hq : q = m + (M - s)) :
    Calls Try.prog 66 #[slV g n cap, .int .i64 (p : Int), .int .i64 (q : Int), .int .i64 (b : Int), fnV] W fun e w' => e = .returned (.tuple #[]) ∧ Merged g cap P X Y S w w' := by
  have h0 := h
  obtain ⟨ha, hm, hb, hn, few, sx, sy, aft, hM, s1, s2, s3, k1, k2⟩ := h
  obtain ⟨Z, z1, z2, z3⟩ := hr
  have hzl := z1.length_eq
  simp only [List.length_append, List.length_take] at hzl
  refine (hF W p q b (P ++ Z) (X.drop s) (Y.drop (M - s)) S (by simp; omega) (by simp; omega) (by simp; omega) ⟨z3, by simp; omega, by simp; omega, by simp; omega, ?_, few, sx.sublist (List.drop_sublist _ _), sy.sublist (List.drop_sublist _ _), aft_part aft (fun x hx => List.mem_of_mem_drop hx) (fun x hx => List.mem_of_mem_drop hx)⟩).mono ?_
  · rw [← hn]; simp; omega
  · rintro e w' ⟨rfl, ⟨Z2, y1, y2, y3⟩, ho2⟩
    exact ⟨rfl, last_of h0 z1 z2 y1 y2 y3 (ho.trans ho2 (fun k hk => Or.inl hk))⟩
theorem last_not {W w : World} {g cap a m b n M s : Nat} {P X Y S : List TF} (h : Cut2 a m b n M s P X Y S) (hr : R3 g cap M s P X Y S W) (ho : Only [g] w W) (h1 : ¬ (s < X.length ∧ M - s < Y.length)) : Merged g cap P X Y S w W := by
  obtain ⟨Z, z1, z2, z3⟩ := hr
  refine last_of h z1 z2 (List.Perm.refl _) ?_ ?_ ho
  · rcases Nat.lt_or_ge s X.length with h3 | h3
    · rw [List.drop_of_length_le (l := Y) (by omega), List.append_nil]
      exact h.sx.sublist (List.drop_sublist _ _)
    · rw [List.drop_of_length_le h3, List.nil_append]
      exact h.sy.sublist (List.drop_sublist _ _)
  · have e1 : P ++ Z ++ (X.drop s ++ Y.drop (M - s)) ++ S = P ++ Z ++ X.drop s ++ Y.drop (M - s) ++ S := by simp only [List.append_assoc]
    rw [e1]
    exact z3
end Go.Proofs.Ythdgfchmglkpaaa
