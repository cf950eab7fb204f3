/-
  What a turn tells of a table; the walk of scan.Turn. The table of factors holds what the program's text lays; a table's shape.
-/
import Derived.Test.YtdldgiicblmknaaDoorSE
import Derived.Test.YtdldgiicblmknaaDoorSB
import Derived.Test.YtdldgiicblmknaaDoorIE
namespace Go.Proofs.YtdldgiicblmknaaDoor
open Go.RowKit

/-- The size by which a table is gone through. -/
def tS (X : Tb) : Nat := if X.new = [] then (if X.old.length = 0 then 2 else X.old.length.log2) else (min X.old.length X.new.length).log2
/-- What a turn tells. -/
def tL (X : Tb) (c : Nat) : List En :=
  if X.new = [] then X.old.getD (c % pw (tS X)) []
  else if X.old.length < X.new.length then X.old.getD (c % pw (tS X)) [] ++ (X.new.getD (c % pw (tS X)) [] ++ X.new.getD (c % pw (tS X) + pw (tS X)) [])
  else X.new.getD (c % pw (tS X)) [] ++ (X.old.getD (c % pw (tS X)) [] ++ X.old.getD (c % pw (tS X) + pw (tS X)) [])
theorem log_pw (k : Nat) : (pw k).log2 = k := Nat.log2_two_pow
theorem pw_inj {a b : Nat} (h : pw a = pw b) : a = b := by rw [← log_pw a, h, log_pw]
theorem pw_lt {a b : Nat} (h : a < b) : pw a < pw b := Nat.pow_lt_pow_right (by decide) h
/-- A table is whole, or it grows, or it shrinks. -/
theorem shape {X : Tb} (hI : Inv X) (hP : Par X) : 2 ≤ tS X ∧ tS X ≤ 16 ∧
    ((X.new = [] ∧ SzOk X.old.length (tS X) ∧ ∀ c, tL X c = X.old.getD (c % pw (tS X)) []) ∨
     (X.new ≠ [] ∧ X.old.length = pw (tS X) ∧ X.new.length = pw (tS X + 1) ∧ tS X + 1 ≤ 16 ∧ ∀ c, tL X c = X.old.getD (c % pw (tS X)) [] ++ (X.new.getD (c % pw (tS X)) [] ++ X.new.getD (c % pw (tS X) + pw (tS X)) [])) ∨
     (X.new ≠ [] ∧ X.new.length = pw (tS X) ∧ X.old.length = pw (tS X + 1) ∧ tS X + 1 ≤ 16 ∧ ∀ c, tL X c = X.new.getD (c % pw (tS X)) [] ++ (X.old.getD (c % pw (tS X)) [] ++ X.old.getD (c % pw (tS X) + pw (tS X)) []))) := by
  obtain ⟨k0, h0⟩ := hI.good.s0
  obtain ⟨k1, h1⟩ := hI.good.s1
  by_cases hn : X.new = []
  · have hS : tS X = k0 := by
      unfold tS
      rw [if_pos hn]
      rcases h0 with ⟨a, b⟩ | ⟨a, b, c⟩
      · rw [if_pos a, b]
      · rw [if_neg (by have := pw_pos k0; omega), c, log_pw]
    have hk : 2 ≤ k0 ∧ k0 ≤ 16 := by rcases h0 with ⟨a, b⟩ | ⟨a, b, c⟩ <;> omega
    refine ⟨by omega, by omega, Or.inl ⟨hn, by rw [hS]; exact h0, fun c => ?_⟩⟩
    unfold tL
    rw [if_pos hn]
  · have hl1 : 0 < X.new.length := List.length_pos_iff.2 hn
    have hl0 : 0 < X.old.length := by have := hI.good.mv hn; omega
    rcases h0 with ⟨a, _⟩ | ⟨a0, b0, c0⟩
    · omega
    rcases h1 with ⟨a, _⟩ | ⟨a1, b1, c1⟩
    · omega
    have hc0 := pw_pos k0
    have hc1 := pw_pos k1
    rcases hP hn with h | h
    · have hlt : X.old.length < X.new.length := by omega
      have hS : tS X = k0 := by unfold tS; rw [if_neg hn, Nat.min_eq_left (by omega), c0, log_pw]
      have hk : k1 = k0 + 1 := pw_inj (by rw [← c1, h, c0, pw_succ])
      refine ⟨by omega, by omega, Or.inr (Or.inl ⟨hn, by rw [hS]; exact c0, by rw [hS, ← hk]; exact c1, by omega, fun c => ?_⟩)⟩
      unfold tL
      rw [if_neg hn, if_pos hlt]
    · have hlt : X.new.length < X.old.length := by omega
      have hS : tS X = k1 := by unfold tS; rw [if_neg hn, Nat.min_eq_right (by omega), c1, log_pw]
      have hk : k0 = k1 + 1 := pw_inj (by rw [← c0, h, c1, pw_succ])
      refine ⟨by omega, by omega, Or.inr (Or.inr ⟨hn, by rw [hS]; exact c1, by rw [hS, ← hk]; exact c0, by omega, fun c => ?_⟩)⟩
      unfold tL
      rw [if_neg hn, if_neg (by omega)]
/-- A turn tells just the keys of its numbers. -/
theorem tL_mem {X : Tb} (hI : Inv X) (hP : Par X) (c : Nat) (e : En) : e ∈ tL X c ↔ (e ∈ X.ents ∧ num X.seed e.2.1 % pw (tS X) = c % pw (tS X)) := by
  obtain ⟨hs2, hs16, h | h | h⟩ := shape hI hP
  · obtain ⟨hn, hz, hL⟩ := h
    rw [hL]
    rcases hz with ⟨a, b⟩ | ⟨a, b, cc⟩
    · have : X.old = [] := List.length_eq_zero_iff.1 a
      have he : X.ents = [] := by unfold Tb.ents; rw [this, hn, hI.ext]; rfl
      rw [this, he]; simp
    · rw [told_one hI hn, cc]
  · obtain ⟨hn, h1, h2, _, hL⟩ := h
    rw [hL]
    have hp := pw_pos (tS X)
    have hm := Nat.mod_lt c hp
    have := told_two hI.pl0 hI.pl1 (by rw [h1, h2, pw_succ]) (by omega) (c % pw (tS X)) (by omega) e
    rw [h1] at this
    rw [this]
    unfold Tb.ents
    rw [hI.ext]; simp
  · obtain ⟨hn, h1, h2, _, hL⟩ := h
    rw [hL]
    have hp := pw_pos (tS X)
    have hm := Nat.mod_lt c hp
    have := told_two hI.pl1 hI.pl0 (by rw [h1, h2, pw_succ]) (by omega) (c % pw (tS X)) (by omega) e
    rw [h1] at this
    rw [this]
    unfold Tb.ents
    rw [hI.ext]; simp [Or.comm]
theorem chAt_nat (l : List (List En)) (n : Nat) : chAt l (n : Int) = l.getD n [] := by
  unfold chAt
  split
  · rfl
  · next h =>
    have : l.length ≤ n := by omega
    simp [List.getElem?_eq_none this]
theorem kys_append (L M : List En) : kys (L ++ M) = kys L ++ kys M := by simp [kys]
theorem kys_len (L : List En) : (kys L).length = L.length := by simp [kys]
theorem part_len {X : Tb} (hI : Inv X) : (∀ n, (X.old.getD n []).length ≤ 1000000) ∧ (∀ n, (X.new.getD n []).length ≤ 1000000) := by
  have hc := hI.cnt
  have hg := hI.good.ct
  have h5 : X.ents.length = X.old.flatten.length + (X.new.flatten.length + X.ext.length) := by unfold Tb.ents; simp
  have key : ∀ (l : List (List En)) n, (l.getD n []).length ≤ l.flatten.length := by
    intro l n
    cases hc : l[n]? with
    | none => simp [hc]
    | some c =>
      obtain ⟨hi2, hc2⟩ := List.getElem?_eq_some_iff.1 hc
      have h4 : l.flatten = (l.take n).flatten ++ (l.drop n).flatten := by rw [← List.flatten_append, List.take_append_drop]
      have hd : l.getD n [] = c := by simp [hc]
      rw [hd, h4, List.drop_eq_getElem_cons hi2, hc2]; simp; omega
  exact ⟨fun n => by have := key X.old n; omega, fun n => by have := key X.new n; omega⟩

theorem Ok.after {B : Nat} {X : Tb} {w w' : World} (h : Ok B X w) (hb : Below w.heap.size w w') : Ok B X w' :=
  h.on (O := []) ⟨hb.mono (Nat.zero_le _), fun k hk _ => hb.block k hk⟩ (by simp) (by simp)
theorem chain_at {B : Nat} {X : Tb} {w : World} (h : Ok B X w) (b : Bool) (n : Nat) :
    Calls Tryd.prog 33 #[.pointer (some ⟨X.T, 0, none⟩), .bool b, .int .i64 n] w fun r w' => ∃ v', r = .returned v' ∧ RowT w' w.heap.size v' (kys ((if b then X.old else X.new).getD n [])) ∧ Below w.heap.size w w' := by
  cases b with
  | true => have := chain_old h n; rw [chAt_nat] at this; exact this
  | false => have := chain_new h n; rw [chAt_nat] at this; exact this

end Go.Proofs.YtdldgiicblmknaaDoor
